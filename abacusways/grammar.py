"""The grammar of methods.

Each function reads its part of a text from the left and asks for nothing but signs with which
some method goes on: so the place where a Fault comes is the length of the longest beginning that
the text has in common with a method.
"""

from abacusways.reader import Reader

MOST_BLOCKS = 16
MOST_BRACKETS = 16
DIGITS = "0123456789"
MOST_DIGITS = 4
HEADS = "abcdefgh"
MARKS = "ABCDEFGH"
BRACKETS = {"[": "]", "(": ")"}


def count_lines(text):
    """How many lines the method has; a Fault if the text is no method."""
    reader = Reader(text)
    blocks = []
    lines = 0
    # With a block open the text's end is a fault, which reading one line more finds.
    while blocks or not reader.ended():
        read_line(reader, blocks)
        lines += 1
    return lines


def line_words(blocks):
    """The words with which a line may begin, those of the blocks that are open being told.

    A line that is a word alone has its LF with it.
    """
    words = ["add ", "take ", "set ", "stop\n", "fail\n"]
    if len(blocks) < MOST_BLOCKS:
        words.extend(["if ", "while "])
    if blocks:
        words.append("end\n")
        if blocks[-1] == "if ":
            words.append("else\n")
    return words


def read_line(reader, blocks):
    """Reads a line with its LF; blocks then tells what is open behind it."""
    word = reader.read_word(line_words(blocks))
    if word == "add " or word == "take ":
        read_expression(reader)
        reader.read_word([" at "])
        read_expression(reader)
        reader.read_sign("\n")
    elif word == "set ":
        reader.read_sign(HEADS)
        reader.read_sign(" ")
        read_expression(reader)
        reader.read_sign("\n")
    elif word == "if " or word == "while ":
        read_tests(reader)
        blocks.append(word)
    elif word == "else\n":
        # What is open is no longer "if ", so no second else may stand in it.
        blocks[-1] = word
    elif word == "end\n":
        blocks.pop()


def read_tests(reader):
    """Reads C, with the LF behind it."""
    behind = " and "
    while behind == " and ":
        read_expression(reader)
        reader.read_word(["=", "<", ">", "<=", ">=", "<>"])
        read_expression(reader)
        behind = reader.read_word([" and ", "\n"])


def read_expression(reader):
    """Reads E, as far as it goes."""
    closers = []
    going_on = True
    while going_on:
        read_opening_brackets(reader, closers)
        read_number_or_letter(reader)
        read_closing_brackets(reader, closers)
        # With a bracket open E doesn't end here, so more is asked for.
        going_on = reader.shows("+-*") or len(closers) > 0
        if going_on:
            reader.read_sign("+-*")


def read_opening_brackets(reader, closers):
    """Reads what brackets open here; closers has what closes those that are open."""
    while len(closers) < MOST_BRACKETS and reader.shows("[("):
        closers.append(BRACKETS[reader.read_sign("[(")])


def read_closing_brackets(reader, closers):
    """Reads what brackets close here."""
    while closers and reader.shows(closers[-1]):
        reader.read_sign(closers.pop())


def read_number_or_letter(reader):
    """Reads a number, a head or a mark."""
    first = reader.read_sign(DIGITS + HEADS + MARKS)
    if first in DIGITS and first != "0":
        size = 1
        while size < MOST_DIGITS and reader.shows(DIGITS):
            reader.read_sign(DIGITS)
            size += 1
