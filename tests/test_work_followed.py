"""The call work against run by books that are right, and against the document followed in a second way by others."""

import collections
import math
import random
import unittest

from abacusways.methods import run, school, work
from helper import (CHINESE, FIVE, MOST, SOVIET, TEN, THREE, TWELVE, TWENTY, TWO, Chance, bytes_of, digits_of,
                    follow_work, is_right, make_of, paired_strokes, ratios_of, right_book, right_row, rods_of,
                    single_strokes, standing_of_value)

# Rods of one ratio whose digits have the same forms.
ALIKE = [
    [TWO, [2, 3, 1, 2, 1, 0, 0], [2, 1, 1, 1, 2, 0, 0]],
    [THREE, [3, 4, 1, 0, 0, 0, 0]],
    [[4, 1, 1, 1, 1, 1, 1]],
    [FIVE, [5, 4, 1, 1, 5, 0, 0], [5, 7, 1, 0, 0, 0, 0]],
    [[8, 1, 1, 1, 2, 1, 4], [8, 1, 1, 1, 2, 2, 4]],
    [TEN, CHINESE, [10, 9, 1, 1, 5, 0, 0]],
    [SOVIET, [10, 9, 1, 0, 0, 0, 0]],
    [[10, 2, 5, 5, 1, 0, 0]],
    [TWELVE],
    [TWENTY, [20, 4, 1, 1, 5, 2, 10]],
]
SCHOOL = [bytes(school(k)[1:]).decode() for k in range(4)]


def books(chance):
    """Rods, a hand and a book that is right on each of them."""
    for rods in ALIKE:
        for hand in (single_strokes(chance.randrange(4), chance.randrange(1, 9)),
                     single_strokes(chance.choice((0, 255)), chance.randrange(1, 250), chance.randrange(3, 9)),
                     paired_strokes(chance.randrange(256), chance.randrange(1, 9))):
            yield rods, hand, right_book(rods[0], hand, chance)


def sums(chance, value, ratios, lines):
    """A text of sums, looks and heads, for most of which there is room on the frame that shows the value."""
    text = ""
    for line in range(lines):
        rod = chance.randrange(len(ratios))
        place = math.prod(ratios[:rod])
        other = chance.randrange(len(ratios))
        digit = digits_of(value, ratios)[other]
        amount = chance.choice((1, digit, chance.randrange(20), chance.randrange(10000)))
        told = f"[{other}]" if amount == digit else amount
        if amount * place <= value and chance.randrange(2):
            text += f"take {told} at {rod}\n"
            value -= amount * place
        elif value + amount * place < math.prod(ratios) or chance.randrange(40) == 0:
            text += f"add {told} at {rod}\nset {chance.choice('abc')} [{other}]\n"
            value += amount * place
            if value >= math.prod(ratios):
                return text
    return text


class WorkTest(unittest.TestCase):
    def ends_as_on_numbers(self, h, v, most, make, hand, marks, text, book):
        """Promise 1; and what the hand has done and what it cost is as found in a second way."""
        standing = standing_of_value(v, make)
        answer = work(h, most, make, hand, standing, marks, bytes_of(text), book)
        expected = run(v, most, make, marks, bytes_of(text))
        if expected[0] == 0:
            expected = expected[:2] + answer[2:4] + standing_of_value(expected[2], make)
        if answer != expected:
            self.fail(f"{(h, v, most, make, hand, marks, text)}: {answer}, not {expected}")
        return self.agrees(h, most, make, hand, standing, marks, text, book)

    def agrees(self, h, most, make, hand, standing, marks, text, book):
        answer = work(h, most, make, hand, standing, marks, bytes_of(text), book)
        expected = follow_work(h, most, make, hand, standing, marks, text, book)
        if answer != expected:
            self.fail(f"{(h, most, make, hand, standing, marks, text, book)}: {answer}, not {expected}")
        return answer

    def goes_on_the_same_with_more(self, answer, h, most, *rest):
        """Promise 3: what ends within so many steps ends so within more."""
        make, hand, standing, marks, text, book = rest
        if answer != [-8]:
            for more in (most + 1, 3 * most + 7, MOST):
                self.assertEqual(work(h, more, make, hand, standing, marks, bytes_of(text), book), answer)
        if answer[0] == 0 and answer[1] > 0:
            self.assertEqual(work(h, answer[1], make, hand, standing, marks, bytes_of(text), book), answer)
            self.assertEqual(work(h, answer[1] - 1, make, hand, standing, marks, bytes_of(text), book), [-8])


def outcome(answer):
    """What the answer comes to, by and large."""
    if answer[0] == 0:
        return ("acts", min(answer[2], 20))
    return tuple(answer[:2])


class RightBooks(WorkTest):
    def test_they_are_right(self):
        chance = random.Random(2)
        for rods, hand, book in books(chance):
            for rod in rods:
                self.assertTrue(all(is_right(row, rod, hand) for row in book))
            self.assertEqual(len(book), 2 * rods[0][0] * (rods[0][0] - 1))

    def test_sums(self):
        chance = random.Random(3)
        seen = collections.Counter()
        for rods, hand, book in books(chance):
            for count in range(30):
                make = make_of(*[chance.choice(rods) for rod in range(chance.choice((1, 2, 3, 5, 8, 20, 64)))])
                ratios = ratios_of(make)
                span = math.prod(ratios)
                v = chance.choice((0, span - 1, chance.randrange(span), span // 2))
                text = sums(chance, v, ratios, 8)
                h = chance.randrange(len(ratios))
                answer = self.ends_as_on_numbers(h, v, 100, make, hand, [0] * 8, text, book)
                seen[outcome(answer)] += 1
                standing = standing_of_value(v, make)
                self.goes_on_the_same_with_more(answer, h, 100, make, hand, standing, [0] * 8, text, book)
        self.assertGreater(seen["acts", 20], 200)
        self.assertGreater(seen[-9, 2], 10)
        self.assertEqual(seen[-9, 5], 0)

    def test_methods_by_chance(self):
        chance = random.Random(4)
        seen = collections.Counter()
        for rods, hand, book in books(chance):
            for count in range(60):
                make = make_of(*[chance.choice(rods) for rod in range(chance.randrange(1, 7))])
                ratios = ratios_of(make)
                v = chance.choice((0, math.prod(ratios) - 1, chance.randrange(math.prod(ratios))))
                text = Chance(chance, len(ratios)).text(8)
                marks = [chance.randrange(chance.choice((4, 64))) for mark in range(8)]
                h, most = chance.randrange(len(ratios)), chance.choice((chance.randrange(40), 300))
                if len(text) <= 4096:
                    answer = self.ends_as_on_numbers(h, v, most, make, hand, marks, text, book)
                    seen[outcome(answer)] += 1
                    standing = standing_of_value(v, make)
                    self.goes_on_the_same_with_more(answer, h, most, make, hand, standing, marks, text, book)
        for kind in (1, 2, 3, 4):
            self.assertGreater(seen[-9, kind], 10)
        self.assertGreater(seen[-8,], 10)

    def test_the_schools_own_on_any_numbers_and_marks(self):
        chance = random.Random(5)
        for rods, hand, book in books(chance):
            for text in SCHOOL * 3:
                make = make_of(*[chance.choice(rods) for rod in range(chance.randrange(1, 13))])
                span = math.prod(ratios_of(make))
                marks = [chance.randrange(chance.choice((3, 8))) for mark in range(8)]
                h, v = chance.randrange(len(make) // 7), chance.randrange(span)
                self.ends_as_on_numbers(h, v, chance.choice((60, 600)), make, hand, marks, text, book)


class TheSchoolsOwn(WorkTest):
    """Fields of so many rods, one behind the other, on makes of one ratio."""

    def works(self, text, fields, after, marks, rods, hand, book, chance):
        make = make_of(*[chance.choice(rods) for length, number in fields for rod in range(length)])
        ratio = rods[0][0]
        standing, expected, rod = [], [], 0
        for (length, number), end in zip(fields, after):
            standing += standing_of_value(number, make[7 * rod:7 * (rod + length)])
            expected += standing_of_value(end, make[7 * rod:7 * (rod + length)])
            rod += length
        answer = work(chance.randrange(rod), MOST, make, hand, standing, marks, bytes_of(text), book)
        if answer != answer[:4] + expected or answer[0] != 0:
            self.fail(f"{(make, hand, standing, marks, text)}: {answer}, not {expected}")
        value = sum(number * ratio ** sum(length for length, other in fields[:place])
                    for place, (length, number) in enumerate(fields))
        self.assertEqual(answer[1], run(value, MOST, make, marks, bytes_of(text))[1])

    def test_sum(self):
        chance = random.Random(6)
        for rods, hand, book in books(chance):
            for count in range(6):
                short, long = sorted(chance.randrange(1, 6) for field in range(2))
                one = chance.randrange(rods[0][0] ** short)
                other = chance.randrange(rods[0][0] ** long - one)
                self.works(SCHOOL[0], ((short, one), (long, other)), (one, one + other),
                           [0, short, short, long, 0, 0, 0, 0], rods, hand, book, chance)

    def test_product(self):
        chance = random.Random(7)
        for rods, hand, book in books(chance):
            for count in range(5):
                b, d = chance.randrange(1, 5), chance.randrange(1, 5)
                one, other = chance.randrange(rods[0][0] ** b), chance.randrange(rods[0][0] ** d)
                self.works(SCHOOL[1], ((b, one), (d, other), (b + d, 0)), (one, other, one * other),
                           [0, b, b, d, b + d, 0, 0, 0], rods, hand, book, chance)

    def test_quotient(self):
        chance = random.Random(8)
        for rods, hand, book in books(chance):
            for count in range(5):
                b, d = chance.randrange(1, 5), chance.randrange(1, 4)
                one, other = chance.randrange(rods[0][0] ** b), chance.randrange(1, rods[0][0] ** d)
                self.works(SCHOOL[2], ((b, one), (d, other), (b, 0)), (one % other, other, one // other),
                           [0, b, b, d, b + d, 0, 0, 0], rods, hand, book, chance)
            make, standing = make_of(*[rods[0]] * 4), standing_of_value(0, make_of(*[rods[0]] * 4))
            answer = work(0, MOST, make, hand, standing, [0, 1, 1, 1, 2, 0, 0, 0], bytes_of(SCHOOL[2]), book)
            self.assertEqual(answer, [-9, 4, 9])

    def test_root(self):
        chance = random.Random(9)
        for rods, hand, book in books(chance):
            for count in range(4):
                b = chance.randrange(1, 6)
                half = (b + 1) // 2
                number = chance.randrange(rods[0][0] ** b)
                found = math.isqrt(number)
                self.works(SCHOOL[3], ((b, number), (half, 0), (half + 1, 0)), (number - found ** 2, found, 2 * found),
                           [0, b, 0, 0, b, 0, b + half, 0], rods, hand, book, chance)


def rules_come_to(op, number, digits, ratios):
    """The rules that a sum asks for, each as op, d, x and rod, the digits being changed; None if it runs over."""
    found = []

    def change(d, rod):
        if rod == len(digits):
            return False
        found.append((op, d, digits[rod], rod))
        total = digits[rod] - d if op else digits[rod] + d
        digits[rod] = total % ratios[rod]
        return digits[rod] == total or change(1, rod + 1)

    for rod, digit in reversed(list(enumerate(digits_of(number, ratios)))):
        if digit > 0 and not change(digit, rod):
            return None
    return found


class SeveralRatios(WorkTest):
    """No book is right on rods of two ratios: adding 1 where one ratio ends carries there, but not on the larger.

    So the books here are right wherever the sums come to, which is just as good for these sums.
    """

    def test_sums(self):
        chance = random.Random(10)
        carried = collections.Counter()
        for count in range(400):
            hand = chance.choice((single_strokes(chance.randrange(9)), paired_strokes(chance.randrange(9))))
            make = make_of(*[chance.choice(chance.choice(ALIKE)) for rod in range(chance.randrange(2, 9))])
            ratios = ratios_of(make)
            v = chance.randrange(math.prod(ratios))
            text, rules, carries = "", {}, 0
            digits = digits_of(v, ratios)
            for line in range(12):
                op, amount, rod = chance.randrange(2), chance.randrange(1, 30), chance.randrange(len(ratios))
                number, tried = amount * math.prod(ratios[:rod]), list(digits)
                found = rules_come_to(op, number, tried, ratios) if number < math.prod(ratios) else None
                rows = self.with_rules(rules, found, make, hand, chance)
                if rows is not None:
                    text += f"{('add', 'take')[op]} {amount} at {rod}\nset a [{rod}]\n"
                    rules, digits = rows, tried
                    carries += len(found) - sum(digit > 0 for digit in digits_of(number, ratios))
            book = list(rules.values())
            chance.shuffle(book)
            answer = self.ends_as_on_numbers(chance.randrange(len(ratios)), v, 100, make, hand, [0] * 8, text, book)
            self.assertEqual(answer[0], 0)
            carried[len(set(ratios)) > 1 and len(text) > 0, min(carries, 3)] += 1
        self.assertGreater(carried[True, 3], 50)

    def with_rules(self, rules, found, make, hand, chance):
        """The rules with those that are found too; None if one of these can't be right on all its rods."""
        if found is None:
            return None
        rules = dict(rules)
        for op, d, x, rod in found:
            rules.setdefault((op, d, x), right_row(rods_of(make)[rod], hand, op, d, x, chance))
            if not is_right(rules[op, d, x], rods_of(make)[rod], hand):
                return None
        return rules


class OtherBooks(WorkTest):
    def changed(self, book, chance):
        """The book with some rules left out and with steps changed, put in or left out."""
        rows = [list(row) for row in book if chance.randrange(40)]
        for count in range(chance.randrange(1, 3 + len(rows) // 4)):
            row = chance.choice(rows)
            step = chance.choice(([chance.randrange(8), chance.randrange(1, 4), chance.randrange(3)], [0, 0, 0]))
            way = chance.randrange(3)
            if way == 0 and len(row) < 33:
                place = chance.randrange(3, len(row) + 1, 3)
                row[place:place] = step
            elif len(row) > 3:
                place = chance.randrange(3, len(row), 3)
                row[place:place + 3] = step if way == 1 else []
        return rows

    def test_books_that_are_nearly_right(self):
        chance = random.Random(11)
        seen = collections.Counter()
        for rods, hand, book in books(chance):
            for count in range(60):
                make = make_of(*[chance.choice(chance.choice(ALIKE) if chance.randrange(5) == 0 else rods)
                                 for rod in range(chance.randrange(1, 7))])
                ratios = ratios_of(make)
                v = chance.randrange(math.prod(ratios))
                handed = (chance.randrange(len(ratios)), 50, make, hand, standing_of_value(v, make), [0] * 8,
                          sums(chance, v, ratios, 4), self.changed(book, chance))
                answer = self.agrees(*handed)
                seen[outcome(answer)] += 1
                self.goes_on_the_same_with_more(answer, *handed)
        for wanted in ((-9, 2), (-9, 5), ("acts", 0), ("acts", 5), ("acts", 20)):
            self.assertGreater(seen[wanted], 5)

    def test_books_of_any_rules(self):
        chance = random.Random(12)
        seen = collections.Counter()
        for count in range(1500):
            rods = chance.choice(ALIKE)
            make = make_of(*[chance.choice(rods) for rod in range(chance.randrange(1, 8))])
            ratios = ratios_of(make)
            hand = chance.choice((single_strokes(chance.randrange(9), 1, 2), paired_strokes(chance.randrange(9))))
            book = [[op, d, x] + [number for step in range(chance.randrange(4)) for number in chance.choice(
                        ([0, 0, 0], [0, 0, 0], [chance.randrange(6), chance.randrange(1, 3), 0]))]
                    for op in (0, 1) for d in range(1, 10) for x in range(ratios[0])]
            v = chance.randrange(math.prod(ratios))
            text = sums(chance, v, ratios, 2)
            answer = self.agrees(0, 50, make, hand, standing_of_value(v, make), [0] * 8, text, book)
            seen[outcome(answer)] += 1
        for wanted in ((-9, 2), (-9, 5), ("acts", 1), ("acts", 2)):
            self.assertGreater(seen[wanted], 5)


if __name__ == "__main__":
    unittest.main()
