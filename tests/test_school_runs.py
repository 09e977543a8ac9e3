"""The school's own four, run: sum, product, quotient and root, held against Python's arithmetic."""

import itertools
import math
import random
import unittest

from abacusways.methods import run, school
from helper import MOST, make_of, ratios_of, rod_of

PLUS, TIMES, DIVIDE, ROOT = (school(k)[1:] for k in range(4))
NAMES = "ABCDEFGH"


class Layout:
    """Where the fields lie: of each its place and its length. What other rods there are has other ratios.

    Between the fields and at both ends lie so many other rods, by turns, as gaps tells.
    """

    def __init__(self, ratio, lengths, order, gaps):
        rods = []
        self.ratio = ratio
        self.lengths = lengths
        self.places = [0] * len(lengths)
        for field, gap in zip(order, gaps):
            rods += [rod_of(2 + (ratio + count) % 19) for count in range(gap)]
            self.places[field] = len(rods)
            rods += [rod_of(ratio)] * lengths[field]
        rods += [rod_of(2 + (ratio + count) % 19) for count in range(gaps[-1])]
        self.make = make_of(*rods)
        ratios = ratios_of(self.make)
        self.weights = [math.prod(ratios[:rod]) for rod in range(len(rods))]

    def others(self):
        """A number whose digits on the rods that lie in no field are as large as may be."""
        fields = {rod for place, length in zip(self.places, self.lengths) for rod in range(place, place + length)}
        ratios = ratios_of(self.make)
        return sum((ratios[rod] - 1) * weight for rod, weight in enumerate(self.weights) if rod not in fields)

    def frame(self, numbers, others):
        """What the frame shows with these numbers in the fields."""
        return others + sum(number * self.weights[place] for number, place in zip(numbers, self.places) if number)

    def room(self, field):
        """The numbers of a field are below this."""
        return self.ratio ** self.lengths[field]


def marks_of(**told):
    return [told.get(name, 0) for name in NAMES]


class SchoolTest(unittest.TestCase):
    def leads(self, text, layout, marks, before, after):
        """The method leads from these numbers in the fields to those, all other rods left as they were."""
        for others in (0, layout.others()):
            answer = run(layout.frame(before, others), MOST, layout.make, marks, text)
            if answer != [0, answer[1], layout.frame(after, others)]:
                self.fail(f"{(layout.make, marks, before)}: {answer}, not {after}")

    def plus(self, ratio, lengths, pairs, order=(0, 1), gaps=(0, 0, 0)):
        layout = Layout(ratio, lengths, order, gaps)
        marks = marks_of(A=layout.places[0], B=lengths[0], C=layout.places[1], D=lengths[1])
        for one, other in pairs:
            if one < layout.room(0) and one + other < layout.room(1):
                self.leads(PLUS, layout, marks, (one, other), (one, one + other))

    def times(self, ratio, lengths, pairs, order=(0, 1, 2), gaps=(0, 0, 0, 0)):
        layout = Layout(ratio, (*lengths, sum(lengths)), order, gaps)
        marks = marks_of(A=layout.places[0], B=lengths[0], C=layout.places[1], D=lengths[1], E=layout.places[2])
        for one, other in pairs:
            self.leads(TIMES, layout, marks, (one, other, 0), (one, other, one * other))

    def divide(self, ratio, lengths, pairs, order=(0, 1, 2), gaps=(0, 0, 0, 0)):
        layout = Layout(ratio, (*lengths, lengths[0]), order, gaps)
        marks = marks_of(A=layout.places[0], B=lengths[0], C=layout.places[1], D=lengths[1], E=layout.places[2])
        for one, other in pairs:
            if other > 0:
                self.leads(DIVIDE, layout, marks, (one, other, 0), (one % other, other, one // other))
            else:
                answer = run(layout.frame((one, 0, 0), 0), MOST, layout.make, marks, DIVIDE)
                self.assertEqual(answer, [-9, 4, 9])

    def root(self, ratio, length, numbers, order=(0, 1, 2), gaps=(0, 0, 0, 0)):
        half = (length + 1) // 2
        layout = Layout(ratio, (length, half, half + 1), order, gaps)
        marks = marks_of(A=layout.places[0], B=length, E=layout.places[1], G=layout.places[2])
        for number in numbers:
            found = math.isqrt(number)
            self.leads(ROOT, layout, marks, (number, 0, 0), (number - found * found, found, 2 * found))


def numbers_of(chance, ratio, length):
    """Numbers that a field of that length has room for, those at the edges among them."""
    room = ratio ** length
    some = [0, 1, ratio - 1, ratio, room // ratio, room // 2, room - ratio, room - 2, room - 1]
    some += [chance.randrange(room) for count in range(4)]
    return [number for number in some if 0 <= number < room]


class AllNumbersOfSmallFields(SchoolTest):
    def each(self, most_room):
        for ratio, one, other in itertools.product((2, 3, 4, 5, 7, 10, 12, 20), range(1, 5), range(1, 5)):
            if ratio ** (one + other) <= most_room:
                yield ratio, (one, other), list(itertools.product(range(ratio ** one), range(ratio ** other)))

    def test_plus(self):
        for ratio, lengths, pairs in self.each(400):
            if lengths[0] <= lengths[1]:
                self.plus(ratio, lengths, pairs)

    def test_times(self):
        for ratio, lengths, pairs in self.each(256):
            self.times(ratio, lengths, pairs)

    def test_divide(self):
        for ratio, lengths, pairs in self.each(256):
            self.divide(ratio, lengths, pairs)

    def test_root(self):
        for ratio, length in itertools.product((2, 3, 4, 5, 7, 10, 12, 20), range(1, 8)):
            if ratio ** length <= 256:
                self.root(ratio, length, range(ratio ** length))


class ManyNumbers(SchoolTest):
    def places(self, chance, fields):
        """An order of the fields, and how many rods lie ahead of each and behind the last."""
        return chance.sample(range(fields), fields), [chance.randrange(3) for gap in range(fields + 1)]

    def pairs(self, chance, ratio, lengths):
        ones, others = (numbers_of(chance, ratio, length) for length in lengths)
        return chance.sample(list(itertools.product(ones, others)), 6)

    def test_plus(self):
        chance = random.Random(1)
        for ratio in range(2, 21):
            for count in range(4):
                lengths = sorted(chance.randrange(1, 12) for field in range(2))
                self.plus(ratio, lengths, self.pairs(chance, ratio, lengths), *self.places(chance, 2))

    def test_times(self):
        chance = random.Random(2)
        for ratio in range(2, 21):
            for count in range(3):
                lengths = [chance.randrange(1, 8) for field in range(2)]
                self.times(ratio, lengths, self.pairs(chance, ratio, lengths), *self.places(chance, 3))

    def test_divide(self):
        chance = random.Random(3)
        for ratio in range(2, 21):
            for count in range(3):
                lengths = [chance.randrange(1, 8) for field in range(2)]
                self.divide(ratio, lengths, self.pairs(chance, ratio, lengths), *self.places(chance, 3))

    def test_root(self):
        chance = random.Random(4)
        for ratio in range(2, 21):
            for length in chance.sample(range(1, 10), 3):
                numbers = chance.sample(numbers_of(chance, ratio, length), 2)
                squares = [chance.randrange(math.isqrt(ratio ** length)) ** 2 for count in range(2)]
                self.root(ratio, length, numbers + squares + [max(0, square - 1) for square in squares],
                          *self.places(chance, 3))

    def test_fields_as_long_as_there_is_room_for(self):
        self.plus(10, (32, 32), [(10 ** 31 + 7, 9 * 10 ** 31 - 8), (10 ** 32 - 1, 0), (4 * 10 ** 31, 5 * 10 ** 31)])
        self.times(10, (16, 16), [(10 ** 16 - 1, 10 ** 16 - 1), (1234567890123456, 9876543210987654)])
        self.divide(10, (24, 12), [(10 ** 24 - 1, 10 ** 11 + 1), (987654321098765432109876, 7)])
        self.root(10, 30, [10 ** 30 - 1, 2 * 10 ** 29])


class AtTheEdges(SchoolTest):
    def test_by_0(self):
        for ratio in (2, 5, 10, 20):
            for lengths in ((1, 1), (3, 1), (1, 3), (2, 2)):
                self.divide(ratio, lengths, [(one, 0) for one in (0, 1, ratio - 1)])

    def test_a_quotient_of_0_and_a_divisor_longer_than_what_is_divided(self):
        self.divide(10, (2, 4), [(0, 1), (99, 100), (99, 9999), (99, 99), (99, 98), (1, 1000), (12, 5)])

    def test_the_leftmost_rod_is_a_fields(self):
        self.plus(10, (2, 3), [(99, 900), (1, 998)], order=(0, 1), gaps=(1, 0, 0))
        self.divide(10, (3, 1), [(999, 9), (100, 3)], order=(2, 1, 0))
        self.root(10, 4, [9999, 9801, 9800, 1], order=(2, 1, 0))

    def test_a_sum_without_room_on_the_frame(self):
        layout = Layout(10, (2, 2), (0, 1), (0, 0, 0))
        marks = marks_of(A=0, B=2, C=2, D=2)
        self.assertEqual(run(layout.frame((99, 1), 0), MOST, layout.make, marks, PLUS), [-9, 2, 2])
        self.assertEqual(run(layout.frame((98, 1), 0), MOST, layout.make, marks, PLUS), [0, 10, 9998])

    def test_how_many_steps(self):
        self.assertEqual(run(1234, 10, make_of(*[rod_of(10)] * 4), marks_of(A=0, B=2, C=2, D=2), PLUS), [0, 10, 4634])
        self.assertEqual(run(1234, 9, make_of(*[rod_of(10)] * 4), marks_of(A=0, B=2, C=2, D=2), PLUS), [-8])


if __name__ == "__main__":
    unittest.main()
