"""The calls that others make."""

from abacusways.beads import BeadFrame
from abacusways.books import read_book
from abacusways.faults import LargeValue, LongText, NotAllowed, NotInForm, Refusal
from abacusways.frames import NumberFrame
from abacusways.grammar import read_lines
from abacusways.hands import read_hand
from abacusways.makes import find_span, read_make
from abacusways.runs import Run
from abacusways.standings import check_standing, is_in_form
from abacusways.texts import DIVIDE, PLUS, ROOT, TIMES

MOST_BYTES = 4096
MARK_COUNT = 8
MOST_MARK = 63
MOST_STEPS = 16777216


def method(text):
    """How many lines the text has, if it is a method; else the refusal."""
    try:
        check_size(text)
        return [len(read_lines(text))]
    except Refusal as refusal:
        return refusal.numbers


def school(k):
    """0 and the text of the school's method k, if there is one; else the refusal."""
    texts = [PLUS, TIMES, DIVIDE, ROOT]
    if k >= len(texts):
        return [-1]
    return [0] + [ord(sign) for sign in texts[k]]


def run(v, most, make, marks, text):
    """0, how many steps the method takes on the number v, and the number at the end; else the refusal."""
    try:
        check_size(text)
        rods = read_make(make)
        lines = read_lines(text)
        check_run(most, marks)
        if v >= find_span(rods):
            raise LargeValue()
        frame = NumberFrame(rods, v)
        steps = Run(lines, marks, frame).go_through(most)
        return [0, steps, frame.value]
    except Refusal as refusal:
        return refusal.numbers


def work(h, most, make, hand, standing, marks, text, book):
    """0, how many steps, acts, what they cost, and the standing at the end; else the refusal.

    The method is worked on the standing, the hand being at rod h, by the book.
    """
    try:
        check_size(text)
        rods = read_make(make)
        worker = read_hand(hand)
        check_standing(standing, rods)
        rules = read_book(book)
        lines = read_lines(text)
        check_run(most, marks)
        if h >= len(rods):
            raise NotAllowed()
        if not is_in_form(standing, rods):
            raise NotInForm()
        frame = BeadFrame(rods, standing, worker, h, rules)
        steps = Run(lines, marks, frame).go_through(most)
        return [0, steps, frame.acts, frame.cost] + frame.standing
    except Refusal as refusal:
        return refusal.numbers


def check_size(text):
    """Looks whether the text has as many bytes as it may have."""
    if len(text) > MOST_BYTES:
        raise LongText()


def check_run(most, marks):
    """Looks whether the marks and most are such as they may be."""
    if len(marks) != MARK_COUNT or max(marks) > MOST_MARK or most > MOST_STEPS:
        raise NotAllowed()
