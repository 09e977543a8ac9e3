"""The grammar of methods.

Each function reads its part of a text from the left and asks for nothing but signs with which
some method goes on: so the place where a Fault comes is the length of the longest beginning that
the text has in common with a method.

What is read of a line is given back as its first word and its parts: of add and take the two E, of
set the head and the E, of if and while the tests. Of a test these are E, its sign and E.
"""

from abacusways.expressions import HEADS, MARKS, put_in_order
from abacusways.reader import Reader

MOST_BLOCKS = 16
MOST_BRACKETS = 16
DIGITS = "0123456789"
MOST_DIGITS = 4
BRACKETS = {"[": "]", "(": ")"}


def read_lines(text):
    """The method's lines; a Fault if the text is no method."""
    reader = Reader(text)
    blocks = []
    lines = []
    # With a block open the text's end is a fault, which reading one line more finds.
    while blocks or not reader.ended():
        lines.append(read_line(reader, blocks))
    return lines


def line_words(blocks):
    """The words with which a line may begin, those of the blocks that are open being told.

    A line that is a word alone has its LF with it.
    """
    words = ["add ", "take ", "set ", "stop\n", "fail\n"]
    if len(blocks) < MOST_BLOCKS:
        words.extend(["if ", "while "])
    if blocks:
        words.append("end\n")
        if blocks[-1] == "if ":
            words.append("else\n")
    return words


def read_line(reader, blocks):
    """Reads a line with its LF and gives it back; blocks then tells what is open behind it."""
    word = reader.read_word(line_words(blocks))
    parts = []
    if word == "add " or word == "take ":
        parts.append(read_expression(reader))
        reader.read_word([" at "])
        parts.append(read_expression(reader))
        reader.read_sign("\n")
    elif word == "set ":
        parts.append(reader.read_sign(HEADS))
        reader.read_sign(" ")
        parts.append(read_expression(reader))
        reader.read_sign("\n")
    elif word == "if " or word == "while ":
        parts.extend(read_tests(reader))
        blocks.append(word)
    elif word == "else\n":
        # What is open is no longer "if ", so no second else may stand in it.
        blocks[-1] = word
    elif word == "end\n":
        blocks.pop()
    return (word.strip(), parts)


def read_tests(reader):
    """Reads C, with the LF behind it, and gives back its tests."""
    tests = []
    behind = " and "
    while behind == " and ":
        left = read_expression(reader)
        sign = reader.read_word(["=", "<", ">", "<=", ">=", "<>"])
        tests.append((left, sign, read_expression(reader)))
        behind = reader.read_word([" and ", "\n"])
    return tests


def read_expression(reader):
    """Reads E, as far as it goes, and gives it back in the order in which it is worked out."""
    parts = []
    closers = []
    going_on = True
    while going_on:
        parts.extend(read_opening_brackets(reader, closers))
        parts.append(read_number_or_letter(reader))
        parts.extend(read_closing_brackets(reader, closers))
        # With a bracket open E doesn't end here, so more is asked for.
        going_on = reader.shows("+-*") or len(closers) > 0
        if going_on:
            parts.append(reader.read_sign("+-*"))
    return put_in_order(parts)


def read_opening_brackets(reader, closers):
    """Reads what brackets open here; closers has what closes those that are open."""
    brackets = []
    while len(closers) < MOST_BRACKETS and reader.shows("[("):
        bracket = reader.read_sign("[(")
        brackets.append(bracket)
        closers.append(BRACKETS[bracket])
    return brackets


def read_closing_brackets(reader, closers):
    """Reads what brackets close here."""
    brackets = []
    while closers and reader.shows(closers[-1]):
        brackets.append(reader.read_sign(closers.pop()))
    return brackets


def read_number_or_letter(reader):
    """Reads a number, a head or a mark; of a number what is given back is no text."""
    found = reader.read_sign(DIGITS + HEADS + MARKS)
    if found not in DIGITS:
        return found
    # Behind a first 0 no digit may stand.
    while found != "0" and len(found) < MOST_DIGITS and reader.shows(DIGITS):
        found += reader.read_sign(DIGITS)
    return int(found)
