"""The call method against the document's grammar, followed sign by sign in all ways at once.

The grammar is written out once more here, as choices of what may stand for each of its parts. A
way through it is a stack of what is still to come, as nested pairs. A beginning that has a way
left is the beginning of a method, for every part can be ended; it is one itself if a way has
nothing left to come.
"""

import functools
import itertools
import random
import unittest

from abacusways.methods import method

MOST = 16

SAMPLE = """add [(a+1)*[B-(2)]]+30 at ([0])*2
if a<=9999 and b<>c and [D]>=(e)
while f>0
set f f-1
if g=h
else
stop
end
end
else
take 1 at A+a
fail
end
"""


def choices(name, depth):
    """All that may stand for a part of the grammar, depth blocks or brackets being open round it.

    What two choices would begin with stands in front of them once, so that the ways stay few.
    """
    if name == "lines":
        return [()] + [(*line, "\n", ("lines", depth)) for line in line_choices(depth)]
    if name == "if's end":
        return [tuple("end"), (*"else\n", ("lines", depth + 1), *"end")]
    if name == "C":
        return [(("test", 0), ("more tests", 0))]
    if name == "more tests":
        return [(), (*" and ", ("test", 0), ("more tests", 0))]
    if name == "test":
        return [(("E", 0), ("test sign", 0), ("E", 0))]
    if name == "test sign":
        return [tuple(sign) for sign in ("=", "<", ">", "<=", ">=", "<>")]
    return expression_choices(name, depth)


def line_choices(depth):
    """All lines without their last LF; a block is a line with all that is in it."""
    expression = ("E", 0)
    inner = ("lines", depth + 1)
    lines = [(*word, expression, *" at ", expression) for word in ("add ", "take ")]
    lines += [(*"set ", ("head", 0), " ", expression), tuple("stop"), tuple("fail")]
    if depth < MOST:
        lines.append((*"if ", ("C", 0), "\n", inner, ("if's end", depth)))
        lines.append((*"while ", ("C", 0), "\n", inner, *"end"))
    return lines


def expression_choices(name, depth):
    """All that may stand for E and its parts; of digits depth tells how many at most."""
    if name == "E":
        return [(("T", depth), ("more of E", depth))]
    if name == "more of E":
        return [()] + [(sign, ("T", depth), ("more of E", depth)) for sign in "+-"]
    if name == "T":
        return [(("F", depth), ("more of T", depth))]
    if name == "more of T":
        return [(), ("*", ("F", depth), ("more of T", depth))]
    if name == "digits":
        return [()] + [(digit, ("digits", depth - 1)) for digit in "0123456789" if depth > 0]
    if name == "head":
        return [(head,) for head in "abcdefgh"]
    ways = [(sign,) for sign in "0abcdefghABCDEFGH"]
    ways += [(digit, ("digits", 3)) for digit in "123456789"]
    if depth < MOST:
        ways += [(pair[0], ("E", depth + 1), pair[1]) for pair in ("[]", "()")]
    return ways


START = (("lines", 0), None)


@functools.lru_cache(maxsize=None)
def opened(way):
    """The ways that come of one, each with a sign in front, or None where nothing is to come."""
    if way is None or isinstance(way[0], str):
        return frozenset([way])
    (name, depth), rest = way
    ways = set()
    for parts in choices(name, depth):
        ways |= opened(functools.reduce(lambda behind, part: (part, behind), reversed(parts), rest))
    return frozenset(ways)


@functools.lru_cache(maxsize=None)
def follow(ways, sign):
    """The ways left behind one more sign."""
    left = set()
    for way in ways:
        if way is not None and way[0] == sign:
            left |= opened(way[1])
    return frozenset(left)


def expected(text):
    """What method is to answer of a text, told by the grammar alone."""
    ways = opened(START)
    for place, sign in enumerate(text):
        ways = follow(ways, sign)
        if not ways:
            return [-5, 11, place]
    return [text.count("\n")] if None in ways else [-5, 11, len(text)]


def change(text, chance):
    """The text with one place put in, left out, changed, doubled or swapped."""
    place = chance.randrange(len(text))
    sign = chance.choice("abehiswAH019[]()+-*=<> \n")
    size = chance.randrange(1, 8)
    return chance.choice((
        text[:place] + sign + text[place:],
        text[:place] + text[place + size:],
        text[:place] + sign + text[place + 1:],
        text[:place] + text[place:place + size] + text[place:],
        text[:place] + text[place + 1:place + 2] + text[place:place + 1] + text[place + 2:],
    ))


def change_lines(text, chance):
    """The text with its lines left out, doubled or put elsewhere."""
    lines = text.splitlines(keepends=True)
    line = lines.pop(chance.randrange(len(lines)))
    for count in range(chance.randrange(3)):
        lines.insert(chance.randrange(len(lines) + 1), line)
    return "".join(lines)


class AgainstTheGrammar(unittest.TestCase):
    def agrees(self, text):
        answer = method(list(text.encode("latin-1")))
        if answer != expected(text):
            self.fail(f"{text!r}: {answer}, not {expected(text)}")

    def test_the_sample_is_a_method(self):
        self.assertEqual(expected(SAMPLE), [SAMPLE.count("\n")])
        self.agrees(SAMPLE)

    def test_all_short_endings(self):
        signs = "aAi019[(])+*=<> \n"
        for beginning in ("", "add ", "add 1", "add a at 1", "set ", "set a", "set a ", "if a", "if a=0",
                          "while a<", "while a>1", "set a [", "set a (1", "set a [(b"):
            for size in range(4):
                for ending in itertools.product(signs, repeat=size):
                    self.agrees(beginning + "".join(ending))

    def test_all_bytes_everywhere(self):
        for place in range(len(SAMPLE) + 1):
            for byte in range(256):
                self.agrees(SAMPLE[:place] + chr(byte))

    def test_all_orders_of_lines(self):
        lines = ("if a=0\n", "while a=0\n", "else\n", "end\n", "stop\n")
        for size in range(7):
            for text in itertools.product(lines, repeat=size):
                self.agrees("".join(text))

    def test_blocks_and_brackets_near_the_most(self):
        for count in range(14, 19):
            for opener in ("if a=0\n", "while a=0\n", "if a=0\nelse\n"):
                for closed in range(count + 2):
                    self.agrees(opener * count + "end\n" * closed)
            for opener, closer in ("[]", "()"):
                for closed in range(count + 2):
                    self.agrees("set a " + opener * count + "1" + closer * closed + "\n")

    def test_changed_texts(self):
        chance = random.Random(11)
        for count in range(3000):
            text = change_lines(SAMPLE, chance) if count % 3 == 0 else SAMPLE
            for more in range(chance.randrange(3)):
                text = change(text, chance)
            self.agrees(text)


if __name__ == "__main__":
    unittest.main()
