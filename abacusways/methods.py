"""The calls that others make."""

from abacusways.faults import Fault
from abacusways.grammar import count_lines
from abacusways.texts import DIVIDE, PLUS, ROOT, TIMES

MOST_BYTES = 4096


def method(text):
    """How many lines the text has, if it is a method; else the refusal."""
    if len(text) > MOST_BYTES:
        return [-6]
    try:
        return [count_lines(text)]
    except Fault as fault:
        return [-5, fault.rule, fault.place]


def school(k):
    """0 and the text of the school's method k, if there is one; else the refusal."""
    texts = [PLUS, TIMES, DIVIDE, ROOT]
    if k >= len(texts):
        return [-1]
    return [0] + [ord(sign) for sign in texts[k]]
