"""What several tests need: makes, texts, and the document's runs followed in a second way.

The runs are followed here by calls within one another, over the blocks of the text and over what
Python's own reader makes of an E, with the frame kept digit by digit; so nothing of how the package
goes about it is taken over. Frames of beads are followed likewise, and books are made for them.
"""

import ast
import functools
import itertools
import math
import operator

MOST = 16777216
NO_MARKS = [0] * 8

# A rod's seven numbers: its ratio, and beads and worth of each deck.
TEN = [10, 4, 1, 1, 5, 0, 0]
CHINESE = [10, 5, 1, 2, 5, 0, 0]
SOVIET = [10, 10, 1, 0, 0, 0, 0]
TWO = [2, 1, 1, 0, 0, 0, 0]
THREE = [3, 2, 1, 0, 0, 0, 0]
FIVE = [5, 4, 1, 0, 0, 0, 0]
TWELVE = [12, 2, 1, 3, 3, 0, 0]
TWENTY = [20, 4, 1, 1, 5, 1, 10]


def rod_of(ratio):
    """A rod of that ratio on which every digit can be pushed."""
    return [ratio, 4, 1, 3, 5, 0, 0] if ratio > 10 else [ratio, 9, 1, 0, 0, 0, 0]


def make_of(*rods):
    """The make of these rods, the rightmost first."""
    return [number for rod in rods for number in rod]


def bytes_of(text):
    """The text as the calls want it."""
    return list(text.encode("latin-1"))


def ratios_of(make):
    return make[::7]


def value_of(digits, ratios):
    """The number that has these digits, rod 0's first."""
    value = 0
    for digit, ratio in zip(reversed(digits), reversed(ratios)):
        value = value * ratio + digit
    return value


def digits_of(value, ratios):
    digits = []
    for ratio in ratios:
        value, digit = divmod(value, ratio)
        digits.append(digit)
    return digits


class Kind(Exception):
    """A run's fault of that kind."""


class TooLong(Exception):
    """A run that takes more steps than most."""


class Stopped(Exception):
    """A run that has come to stop."""


class DigitFrame:
    """A frame of which the digits are kept, each add and take being done unit by unit of a rod."""

    def __init__(self, make, value):
        self.ratios = ratios_of(make)
        self.digits = digits_of(value, self.ratios)

    def look(self, rod):
        if rod not in range(len(self.digits)):
            raise Kind(1)
        return self.digits[rod]

    def change(self, word, amount, rod):
        if rod not in range(len(self.digits)):
            raise Kind(1)
        carry = amount if word == "add" else -amount
        while carry != 0:
            if rod == len(self.digits):
                raise Kind(2)
            carry, self.digits[rod] = divmod(self.digits[rod] + carry, self.ratios[rod])
            rod += 1

    def value(self):
        return value_of(self.digits, self.ratios)


TESTS = {"=": operator.eq, "<": operator.lt, ">": operator.gt, "<=": operator.le, ">=": operator.ge,
         "<>": operator.ne}
SUMS = {ast.Add: operator.add, ast.Sub: operator.sub, ast.Mult: operator.mul}


class Follower:
    """Follows a run over its blocks."""

    def __init__(self, text, marks, most, frame):
        self.lines = text.splitlines()
        self.letters = dict(zip("abcdefgh", [0] * 8)) | dict(zip("ABCDEFGH", marks))
        self.most = most
        self.frame = frame
        self.steps = 0
        self.line = 0

    def answer(self):
        """The refusal with what goes with it, or 0 and how many steps."""
        try:
            self.follow(self.blocks(0)[0])
        except Stopped:
            pass
        except Kind as kind:
            return [-9, kind.args[0], self.line]
        except TooLong:
            return [-8]
        return [0, self.steps]

    def blocks(self, line):
        """What stands from the line on up to an else or end that belongs to no block in it, and that's line."""
        found = []
        while line < len(self.lines) and self.lines[line] not in ("else", "end"):
            begun = line
            word = self.lines[begun].split(" ")[0]
            inner, otherwise, middle = [], None, None
            if word in ("if", "while"):
                inner, line = self.blocks(line + 1)
                if self.lines[line] == "else":
                    middle = line
                    otherwise, line = self.blocks(line + 1)
            found.append((word, begun, inner, middle, otherwise, line))
            line += 1
        return found, line

    def step(self, line):
        if self.steps == self.most:
            raise TooLong
        self.steps += 1
        self.line = line

    def follow(self, blocks):
        for word, begun, inner, middle, otherwise, end in blocks:
            self.step(begun)
            rest = self.lines[begun].partition(" ")[2]
            if word == "if":
                self.follow_if(rest, inner, middle, otherwise, end)
            elif word == "while":
                while self.so(rest):
                    self.follow(inner)
                    self.step(end)
                    self.step(begun)
            else:
                self.do(word, rest)

    def follow_if(self, rest, inner, middle, otherwise, end):
        if self.so(rest):
            self.follow(inner)
            self.step(end if middle is None else middle)
        elif middle is not None:
            self.follow(otherwise)
            self.step(end)

    def do(self, word, rest):
        if word == "stop":
            raise Stopped
        if word == "fail":
            raise Kind(4)
        if word == "set":
            number = self.number(rest[2:])
            if number not in range(100):
                raise Kind(3)
            self.letters[rest[0]] = number
        else:
            amount, rod = rest.split(" at ")
            amount = self.number(amount)
            if amount < 0:
                raise Kind(3)
            self.frame.change(word, amount, self.number(rod))

    def so(self, rest):
        return all(self.test_so(test) for test in rest.split(" and "))

    def test_so(self, test):
        for sign in ("<=", ">=", "<>", "=", "<", ">"):
            if sign in test:
                left, right = test.split(sign)
                left = self.number(left)
                return TESTS[sign](left, self.number(right))
        raise AssertionError(test)

    def number(self, expression):
        return self.node(ast.parse(expression, mode="eval").body)

    def node(self, node):
        if isinstance(node, ast.Constant):
            return node.value
        if isinstance(node, ast.Name):
            return self.letters[node.id]
        if isinstance(node, ast.List):
            return self.frame.look(self.node(node.elts[0]))
        left = self.node(node.left)
        number = SUMS[type(node.op)](left, self.node(node.right))
        if not -9999 <= number <= 9999:
            raise Kind(3)
        return number


def follow_run(v, most, make, marks, text):
    """What run is to answer if it refuses nothing ahead of the run."""
    frame = DigitFrame(make, v)
    answer = Follower(text, marks, most, frame).answer()
    return answer + [frame.value()] if answer[0] == 0 else answer


class Chance:
    """Makes methods by chance, which now and then have a fault or never end."""

    def __init__(self, random, rods):
        self.random = random
        self.rods = rods

    def text(self, lines, depth=0):
        return "".join(self.line(depth) for count in range(self.random.randrange(lines + 1)))

    def line(self, depth):
        kind = self.random.randrange(20)
        if kind < 6:
            return f"{self.random.choice(('add', 'add', 'take'))} {self.amount()} at {self.rod()}\n"
        if kind < 11 or depth > 3:
            return f"set {self.random.choice('abcdefgh')} {self.small()}\n"
        if kind < 14:
            otherwise = self.random.choice(("", "else\n" + self.text(2, depth + 1)))
            return f"if {self.tests()}\n{self.text(3, depth + 1)}{otherwise}end\n"
        if kind < 18:
            head = self.random.choice("abcdefgh")
            return (f"set {head} 0\nwhile {head}<{self.random.randrange(5)}\n{self.text(3, depth + 1)}"
                    f"set {head} {head}+1\nend\n")
        if kind == 18:
            return f"while {self.tests()}\n{self.text(3, depth + 1)}end\n"
        return self.random.choice(("stop\n", "fail\n", "", ""))

    def tests(self):
        signs = ("=", "<", ">", "<=", ">=", "<>")
        tests = [f"{self.small()}{self.random.choice(signs)}{self.small()}" for count in range(2)]
        return " and ".join(tests[:self.random.randrange(1, 3)])

    def rod(self):
        """An E that is a rod's number for the most part."""
        return self.random.choice((str(self.random.randrange(self.rods)),) * 5
                                  + ("a", "b", "A", "[0]", "[a]", str(self.rods), self.small(), self.small()))

    def amount(self):
        """An E that is from 0 on for the most part."""
        return self.random.choice((str(self.random.randrange(10)),) * 3
                                  + (str(self.random.randrange(10000)), f"[{self.rod()}]", "9-[0]", self.small()))

    def small(self, depth=0):
        """Any E, mostly of small numbers."""
        kind = self.random.randrange(9 if depth < 3 else 4)
        if kind < 2:
            return self.random.choice("0112359") if kind else self.random.choice(("10", "98", "100", "9999"))
        if kind == 2:
            return self.random.choice("abcdefgh")
        if kind == 3:
            return self.random.choice("ABCDEFGH")
        if kind == 4:
            return f"[{self.rod() if depth else self.small(depth + 1)}]"
        if kind == 5:
            return f"({self.small(depth + 1)})"
        return f"{self.small(depth + 1)}{self.random.choice('+-*')}{self.small(depth + 1)}"


@functools.lru_cache(maxsize=None)
def forms_of(rod):
    """Of each digit of the rod (its seven numbers) its form, chosen from all ways to push it."""
    forms = {}
    for way in itertools.product(*(range(beads + 1) for beads in rod[1::2])):
        count = sum(pushed * worth for pushed, worth in zip(way, rod[2::2]))
        if count < rod[0]:
            forms.setdefault(count, []).append(way)
    return {count: min(ways, key=lambda way: (sum(way), -way[0], -way[1])) for count, ways in forms.items()}


def rods_of(make):
    return [tuple(make[place:place + 7]) for place in range(0, len(make), 7)]


def standing_of(digits, make):
    """The standing that shows these digits in form."""
    return [pushed for digit, rod in zip(digits, rods_of(make)) for pushed in forms_of(rod)[digit]]


def standing_of_value(value, make):
    return standing_of(digits_of(value, ratios_of(make)), make)


class CannotBe(Exception):
    """An act that can't be done."""


def act(rod, pushed, hand, step):
    """How the rod's beads stand behind an act that finds them pushed so."""
    number, n, k = step
    stroke = hand[1:][7 * number:7 * number + 7]
    if not stroke:
        raise CannotBe
    pushed = list(pushed)
    for (deck, direction, most), count in ((stroke[:3], n), (stroke[3:6], k)):
        if direction == 0 and count == 0:
            continue
        side = rod[1 + 2 * deck] - pushed[deck] if direction == 1 else pushed[deck]
        if direction == 0 or count not in range(1, most + 1) or count > side:
            raise CannotBe
        pushed[deck] += count if direction == 1 else -count
    return pushed


class BeadFrame:
    """A frame of beads, each rule and each carry in it being a call of its own."""

    def __init__(self, make, standing, hand, book, at):
        self.rods = rods_of(make)
        self.ratios = ratios_of(make)
        self.pushed = [standing[place:place + 3] for place in range(0, len(standing), 3)]
        self.hand = hand
        self.book = {tuple(row[:3]): row[3:] for row in book}
        self.at = at
        self.acts = 0
        self.cost = 0
        self.limit = 65536

    def look(self, rod):
        if rod not in range(len(self.rods)):
            raise Kind(1)
        for digit, form in forms_of(self.rods[rod]).items():
            if list(form) == self.pushed[rod]:
                return digit
        raise Kind(5)

    def change(self, word, amount, rod):
        if rod not in range(len(self.rods)):
            raise Kind(1)
        number = amount * math.prod(self.ratios[:rod])
        if number >= math.prod(self.ratios):
            raise Kind(2)
        self.left = self.limit
        for place, digit in reversed(list(enumerate(digits_of(number, self.ratios)))):
            if digit > 0:
                self.rule(int(word == "take"), digit, place)

    def rule(self, op, d, rod):
        x = self.look(rod)
        steps = self.book.get((op, d, x), [])
        for place in range(0, len(steps), 3):
            if self.left == 0:
                raise Kind(5)
            self.left -= 1
            if any(steps[place:place + 3]):
                self.act(rod, steps[place:place + 3])
            elif rod == len(self.rods) - 1:
                raise Kind(2)
            else:
                self.rule(op, 1, rod + 1)

    def act(self, rod, step):
        try:
            self.pushed[rod] = act(self.rods[rod], self.pushed[rod], self.hand, step)
        except CannotBe:
            raise Kind(5) from None
        self.acts += 1
        self.cost += self.hand[1:][7 * step[0] + 6] + self.hand[0] * abs(rod - self.at)
        self.at = rod

    def standing(self):
        return [count for rod in self.pushed for count in rod]


def follow_work(h, most, make, hand, standing, marks, text, book):
    """What work is to answer if it refuses nothing ahead of the run."""
    frame = BeadFrame(make, standing, hand, book, h)
    answer = Follower(text, marks, most, frame).answer()
    return answer + [frame.acts, frame.cost] + frame.standing() if answer[0] == 0 else answer


def single_strokes(moving, cost=1, most=15):
    """A hand that has for each deck a stroke to the beam and one away."""
    strokes = [[deck, direction, most, 0, 0, 0, cost + 2 * deck + direction - 1]
               for deck in range(3) for direction in (1, 2)]
    return [moving] + [number for stroke in strokes for number in stroke]


def paired_strokes(moving, cost=1):
    """A hand that has besides them strokes for two decks at once, in all directions."""
    strokes = [[deck, direction, 4, other, turn, 2, cost + 7 * deck + other]
               for deck, other in itertools.permutations(range(3), 2)
               for direction, turn in itertools.product((1, 2), repeat=2)]
    return single_strokes(moving, cost, 3) + [number for stroke in strokes for number in stroke]


def acts_between(rod, hand, pushed, wanted, chance):
    """Acts by chance that lead on the rod from the one way to push it to the other, each coming nearer to it."""
    steps = []
    pushed = list(pushed)
    while pushed != list(wanted):
        gaps = [after - before for before, after in zip(pushed, wanted)]
        found = []
        for number in range(len(hand) // 7):
            deck, direction, most, other, turn, second, cost = hand[1 + 7 * number:8 + 7 * number]
            n = min(most, gaps[deck] if direction == 1 else -gaps[deck])
            k = min(second, gaps[other] if turn == 1 else -gaps[other])
            if n > 0 and (k > 0 or turn == 0):
                found += [[number, chance.randint((n + 1) // 2, n), chance.randint(1, k) if turn else 0]]
        steps.append(chance.choice(found))
        pushed = act(rod, pushed, hand, steps[-1])
    return steps


def right_row(rod, hand, op, d, x, chance):
    """A rule for op, d, x that is right on the rod, as a row."""
    total = x - d if op else x + d
    forms = forms_of(rod)
    steps = acts_between(rod, hand, forms[x], forms[total % rod[0]], chance)
    if total % rod[0] != total:
        steps.insert(chance.randrange(len(steps) + 1), [0, 0, 0])
    assert len(steps) <= 10
    return [op, d, x] + [number for step in steps for number in step]


def right_book(rod, hand, chance):
    """A book that is right on the rod, its rows in any order."""
    digits = range(tuple(rod)[0])
    rows = [right_row(tuple(rod), hand, op, d, x, chance) for op in (0, 1) for d in digits[1:] for x in digits]
    chance.shuffle(rows)
    return rows


def is_right(row, rod, hand):
    """Whether the row's rule is right on the rod."""
    op, d, x = row[:3]
    forms = forms_of(tuple(rod))
    pushed, carries = list(forms[x]), 0
    for place in range(3, len(row), 3):
        if any(row[place:place + 3]):
            try:
                pushed = act(rod, pushed, hand, row[place:place + 3])
            except CannotBe:
                return False
        else:
            carries += 1
    total = x - d if op else x + d
    return pushed == list(forms[total % rod[0]]) and carries == (total not in range(rod[0]))
