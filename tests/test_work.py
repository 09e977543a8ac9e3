"""The call work: forms, sums by a book, what they cost, and where they go wrong."""

import itertools
import random
import unittest

from abacusways.methods import work
from helper import (CHINESE, MOST, NO_MARKS, SOVIET, TEN, THREE, TWELVE, TWENTY, TWO, BeadFrame, Kind, bytes_of,
                    digits_of, forms_of, make_of, rod_of, standing_of)

# Strokes of deck 0 and deck 1, each to the beam and away, then of two decks at once; moving over costs 3.
HAND = [3,
        0, 1, 4, 0, 0, 0, 5,
        0, 2, 4, 0, 0, 0, 7,
        1, 1, 1, 0, 0, 0, 11,
        1, 2, 1, 0, 0, 0, 13,
        0, 1, 4, 1, 2, 1, 17,
        0, 2, 3, 1, 1, 1, 19,
        2, 1, 1, 0, 2, 2, 23]
UP, DOWN, FIVE_UP, FIVE_DOWN, UP_FIVE_DOWN, DOWN_FIVE_UP, THIRD_UP_DOWN = range(7)
CARRY = [0, 0, 0]

# Rods of ratio 2, one bead each; adding 1 carries behind the act, taking 1 ahead of it.
BITS = [[0, 1, 0, UP, 1, 0], [0, 1, 1, DOWN, 1, 0, *CARRY], [1, 1, 1, DOWN, 1, 0], [1, 1, 0, *CARRY, UP, 1, 0]]


def ask(text, make, standing, book, h=0, most=MOST, hand=HAND, marks=NO_MARKS):
    rows = [list(row) for row in book]
    return work(h, most, list(make), list(hand), list(standing), list(marks), bytes_of(text), rows)


class WorkTest(unittest.TestCase):
    def ends(self, acts, cost, standing, text, make, before, book, **handed):
        with self.subTest(text=text, before=before, **handed):
            steps = text.count("\n")
            self.assertEqual(ask(text, make, before, book, **handed), [0, steps, acts, cost, *standing])

    def fails(self, kind, line, text, make, before, book, **handed):
        with self.subTest(text=text, before=before, book=book, **handed):
            self.assertEqual(ask(text, make, before, book, **handed), [-9, kind, line])


class Forms(WorkTest):
    def is_form(self, rod, digit, way):
        """Alone of all ways to push the digit this one is in form, and it is seen as the digit."""
        ways = itertools.product(*(range(beads + 1) for beads in rod[1::2]))
        same = [list(other) for other in ways if sum(n * worth for n, worth in zip(other, rod[2::2])) == digit]
        self.assertIn(way, same)
        for other in same:
            with self.subTest(rod=rod, digit=digit, way=other):
                text = f"if [0]={digit}\nstop\nend\nfail\n"
                expected = [0, 2, 0, 0, *way] if other == way else [-3]
                self.assertEqual(ask(text, rod, other, []), expected)

    def test_one_deck(self):
        for digit in range(10):
            self.is_form(SOVIET, digit, [digit, 0, 0])
        for digit in range(2):
            self.is_form([2, 15, 1, 0, 0, 0, 0], digit, [digit, 0, 0])

    def test_the_fewest_beads(self):
        for digit in range(10):
            self.is_form(TEN, digit, [digit % 5, digit // 5, 0])
            self.is_form(CHINESE, digit, [digit % 5, digit // 5, 0])
            self.is_form([10, 2, 5, 5, 1, 0, 0], digit, [digit // 5, digit % 5, 0])
        for digit in range(12):
            self.is_form(TWELVE, digit, [digit % 3, digit // 3, 0])
        for digit in range(20):
            self.is_form(TWENTY, digit, [digit % 5, digit // 5 % 2, digit // 10])
        self.is_form([9, 9, 1, 3, 3, 2, 4], 8, [0, 0, 2])
        self.is_form([9, 9, 1, 3, 3, 2, 4], 6, [0, 2, 0])
        self.is_form([20, 15, 1, 2, 7, 1, 9], 18, [2, 1, 1])

    def test_then_the_most_of_deck_0(self):
        self.is_form([7, 6, 1, 3, 2, 2, 3], 4, [1, 0, 1])
        self.is_form([9, 9, 1, 3, 3, 2, 5], 6, [1, 0, 1])
        self.is_form([7, 3, 2, 6, 1, 2, 3], 4, [2, 0, 0])
        self.is_form([7, 2, 3, 6, 1, 3, 2], 4, [1, 1, 0])
        self.is_form([10, 9, 1, 9, 1, 0, 0], 9, [9, 0, 0])
        self.is_form([10, 4, 1, 9, 1, 0, 0], 9, [4, 5, 0])

    def test_then_the_most_of_deck_1(self):
        self.is_form([4, 1, 1, 1, 1, 1, 1], 1, [1, 0, 0])
        self.is_form([4, 1, 1, 1, 1, 1, 1], 2, [1, 1, 0])
        self.is_form([10, 3, 1, 3, 1, 3, 1], 5, [3, 2, 0])
        self.is_form([10, 3, 1, 3, 1, 3, 1], 8, [3, 3, 2])
        self.is_form([6, 1, 1, 2, 2, 2, 2], 2, [0, 1, 0])
        self.is_form([6, 1, 1, 2, 2, 2, 2], 5, [1, 2, 0])
        self.is_form([10, 4, 1, 2, 5, 2, 5], 5, [0, 1, 0])

    def test_a_count_not_below_the_ratio(self):
        for rod, way in ((CHINESE, [5, 1, 0]), (CHINESE, [0, 2, 0]), (SOVIET, [10, 0, 0]),
                         ([2, 15, 1, 0, 0, 0, 0], [2, 0, 0]), ([2, 1, 1, 1, 63, 0, 0], [0, 1, 0]),
                         ([2, 1, 1, 1, 63, 0, 0], [1, 1, 0])):
            self.assertEqual(ask("", rod, way, []), [-3])
            self.assertEqual(ask("", make_of(TEN, rod, TEN), [0, 0, 0, *way, 0, 0, 0], []), [-3])

    def test_every_way_on_rods_by_chance(self):
        chance = random.Random(5)
        checked = 0
        while checked < 60:
            rod = [chance.randrange(2, 16)]
            for deck in range(3):
                rod += [chance.randrange(1, 5), chance.randrange(1, 6)]
            forms = forms_of(tuple(rod))
            if len(forms) == rod[0]:
                checked += 1
                for way in itertools.product(*(range(beads + 1) for beads in rod[1::2])):
                    expected = [0, 0, 0, 0, *way] if way in forms.values() else [-3]
                    self.assertEqual(ask("", rod, way, []), expected)


class Sums(WorkTest):
    def test_a_carry_over_several_rods(self):
        make = TWO * 4
        before, after = [1, 0, 0] * 3 + [0] * 3, [0] * 9 + [1, 0, 0]
        self.ends(4, 7 + 10 + 10 + 8, after, "add 1 at 0\n", make, before, BITS)
        self.ends(4, 16 + 10 + 10 + 8, after, "add 1 at 0\n", make, before, BITS, h=3)
        self.ends(4, 16 + 8 + 8 + 8, before, "take 1 at 0\n", make, after, BITS)
        self.ends(4, 7 + 8 + 8 + 8, before, "take 1 at 0\n", make, after, BITS, h=3)

    def test_an_act_ahead_of_the_carry_and_behind_it(self):
        make = TWO * 4
        before, after = [0] * 9 + [1, 0, 0], [1, 0, 0] * 3 + [0] * 3
        ahead = [[1, 1, 1, DOWN, 1, 0], [1, 1, 0, UP, 1, 0, *CARRY]]
        behind = [[1, 1, 1, DOWN, 1, 0], [1, 1, 0, *CARRY, UP, 1, 0]]
        self.ends(4, 5 + 8 + 8 + 10, after, "take 1 at 0\n", make, before, ahead)
        self.ends(4, (7 + 9) + 8 + 8 + 8, after, "take 1 at 0\n", make, before, behind)

    def test_the_digits_from_the_left(self):
        # 6 is 0 1 1 0: rod 2 comes first, then rod 1.
        make = TWO * 4
        self.ends(2, (5 + 6) + (5 + 3), [0, 0, 0, 1, 0, 0, 1, 0, 0, 0, 0, 0], "add 6 at 0\n", make, [0] * 12, BITS)
        self.ends(2, (5 + 9) + (5 + 3), [0] * 6 + [1, 0, 0] * 2, "add 3 at 2\n", make, [0] * 12, BITS)
        self.ends(2, (7 + 6) + (7 + 6), [0] * 12, "take 5 at 0\n", make, [1, 0, 0, 0, 0, 0, 1, 0, 0, 0, 0, 0], BITS)
        # 3 and 3: rod 1's carry, then rod 0's, which finds rod 1 at 0 again.
        self.ends(4, (7 + 3) + (5 + 3) + (7 + 6) + (5 + 3), [0, 0, 0, 1, 0, 0, 1, 0, 0, 0, 0, 0], "add 3 at 0\n", make,
                  [1, 0, 0, 1, 0, 0, 0, 0, 0, 0, 0, 0], BITS)

    def test_the_hand_is_where_it_was(self):
        make = TWO * 4
        both = [1, 0, 0] + [0] * 6 + [1, 0, 0]
        self.ends(2, (5 + 9) + (5 + 9), both, "add 1 at 3\nadd 1 at 0\n", make, [0] * 12, BITS)
        self.ends(2, 5 + (5 + 9), both, "add 1 at 0\nadd 1 at 3\n", make, [0] * 12, BITS)
        self.ends(2, 5 + 7, [0] * 12, "add 1 at 2\nset a [0]\ntake 1 at 2\n", make, [0] * 12, BITS, h=2)
        self.ends(0, 0, [0] * 12, "add 0 at 3\ntake 0 at 0\n", make, [0] * 12, BITS)

    def test_moving_over_that_costs_nothing_and_255(self):
        make = TWO * 64
        for moving in (0, 255):
            hand = [moving] + HAND[1:]
            both = [1, 0, 0] + [0] * 186 + [1, 0, 0]
            self.ends(2, 5 + 63 * moving + 5 + 63 * moving, both, "add 1 at 63\nadd 1 at 0\n", make, [0] * 192, BITS,
                      hand=hand)

    def test_strokes_with_a_second_deck(self):
        book = [[1, 1, 5, UP_FIVE_DOWN, 4, 1], [0, 1, 4, DOWN_FIVE_UP, 3, 1, DOWN, 1, 0], [0, 2, 4, DOWN_FIVE_UP, 3, 1],
                [0, 3, 2, DOWN_FIVE_UP, 2, 1]]
        self.ends(1, 17, [4, 0, 0], "take 1 at 0\n", TEN, [0, 1, 0], book)
        self.ends(2, 19 + 7, [0, 1, 0], "add 1 at 0\n", TEN, [4, 0, 0], book)
        self.ends(1, 19, [1, 1, 0], "add 2 at 0\n", TEN, [4, 0, 0], book)
        self.ends(1, 19 + 3, [0, 0, 0, 0, 1, 0], "add 3 at 1\n", TEN * 2, [0, 0, 0, 2, 0, 0], book)
        self.ends(1, 23, [2, 0, 1], "add 8 at 0\n", TWENTY, [4, 0, 0], [[0, 8, 4, THIRD_UP_DOWN, 1, 2]])
        self.ends(1, 23, [3, 1, 1], "add 9 at 0\n", TWENTY, [4, 1, 0], [[0, 9, 9, THIRD_UP_DOWN, 1, 1]])

    def test_a_rule_that_is_not_told_has_no_steps(self):
        self.ends(0, 0, [0] * 6, "add 1 at 0\n", TEN * 2, [0] * 6, [])
        self.ends(0, 0, [0] * 6, "add 11 at 0\ntake 99 at 0\n", TEN * 2, [0] * 6, [])
        self.ends(0, 0, [0] * 6, "add 1 at 0\n", TEN * 2, [0] * 6, [[0, 1, 0], [1, 1, 0, UP, 1, 0], [0, 2, 0, UP, 1, 0],
                                                                    [0, 1, 1, UP, 1, 0], [0, 0, 0, UP, 1, 0]])
        self.ends(1, 5, [1, 0, 0], "add 1 at 0\n", TWO, [0] * 3, BITS)
        self.ends(1, 5 + 3, [0, 0, 0, 1, 0, 0], "add 3 at 0\n", THREE * 2, [0] * 6, [[0, 1, 0, UP, 1, 0]])

    def test_a_book_may_do_otherwise_than_add(self):
        self.ends(1, 5, [4, 0, 0], "add 1 at 0\n", TEN, [0] * 3, [[0, 1, 0, UP, 4, 0]])
        self.ends(0, 0, [2, 0, 0], "add 1 at 0\nadd 1 at 0\n", TEN, [2, 0, 0], [[0, 1, 0, UP, 1, 0]])

    def test_a_rule_with_two_carries(self):
        # Rod 1 shows 0, then 1, when it is come to.
        book = [[0, 2, 0, *CARRY, UP, 2, 0, *CARRY], [0, 1, 0, UP, 1, 0], [0, 1, 1, UP, 1, 0]]
        self.ends(3, (5 + 3) + (5 + 3) + (5 + 3), [2, 0, 0, 2, 0, 0], "add 2 at 0\n", TEN * 2, [0] * 6, book)

    def test_a_digit_is_looked_at_on_the_beads(self):
        book = [[0, 1, 0, UP, 4, 0], [0, 4, 4, DOWN_FIVE_UP, 1, 1]]
        self.ends(2, 5 + 19, [3, 1, 0], "add 1 at 0\nadd [0] at 0\n", TEN, [0] * 3, book)

    def test_the_standing_at_the_end_may_not_be_in_form(self):
        self.ends(1, 11, [0, 1, 0], "add 1 at 0\n", [5, 4, 1, 1, 5, 0, 0], [0] * 3, [[0, 1, 0, FIVE_UP, 1, 0]])
        self.ends(1, 5, [4, 0, 0], "add 1 at 0\nset a 1\n", [4, 4, 1, 0, 0, 0, 0], [0] * 3, [[0, 1, 0, UP, 4, 0]])


class KindTwo(WorkTest):
    def test_a_number_not_below_the_span_ahead_of_any_act(self):
        broken = [[op, d, x, 31, 1, 0] for op in (0, 1) for d in range(10) for x in range(10)]
        for word in ("add", "take"):
            for amount, rod in ((100, 0), (9999, 0), (10, 1), (11, 1), (9999, 1)):
                self.fails(2, 0, f"{word} {amount} at {rod}\n", TEN * 2, [0] * 6, broken)
                self.fails(2, 0, f"{word} {amount} at {rod}\n", TEN * 2, [0] * 6, [])
            for amount, rod in ((99, 0), (9, 1), (1, 0)):
                self.fails(5, 0, f"{word} {amount} at {rod}\n", TEN * 2, [0] * 6, broken)
                self.ends(0, 0, [0] * 6, f"{word} {amount} at {rod}\n", TEN * 2, [0] * 6, [])

    def test_on_a_make_of_several_ratios(self):
        make = make_of(TEN, TWO, THREE)
        for amount, rod in ((59, 0), (5, 1), (2, 2)):
            self.ends(0, 0, [0] * 9, f"add {amount} at {rod}\n", make, [0] * 9, [])
            self.fails(2, 0, f"add {amount + 1} at {rod}\n", make, [0] * 9, [])
            self.fails(2, 0, f"take {amount + 1} at {rod}\n", make, [0] * 9, [])

    def test_where_it_runs_over(self):
        self.fails(2, 0, "add 1 at 0\n", TWO * 3, [1, 0, 0] * 3, BITS)
        self.fails(2, 0, "add 1 at 2\n", TWO * 3, [1, 0, 0] * 3, BITS)
        self.fails(2, 0, "take 1 at 0\n", TWO * 3, [0] * 9, BITS)
        self.fails(2, 1, "add 1 at 0\nadd 1 at 0\n", TWO, [0] * 3, BITS)
        self.fails(2, 0, "add 1 at 0\n", TWO, [1, 0, 0], BITS)

    def test_a_carry_at_the_leftmost_rod_or_an_act_that_comes_first(self):
        self.fails(2, 0, "add 1 at 0\n", TEN, [0] * 3, [[0, 1, 0, *CARRY, DOWN, 1, 0]])
        self.fails(5, 0, "add 1 at 0\n", TEN, [0] * 3, [[0, 1, 0, DOWN, 1, 0, *CARRY]])
        self.fails(2, 0, "add 1 at 0\n", TEN * 2, [0] * 6, [[0, 1, 0, *CARRY, DOWN, 1, 0]])

    def test_the_other_kinds_come_ahead_of_it(self):
        self.fails(3, 0, "add 0-1 at 5\n", TEN, [0] * 3, [])
        self.fails(1, 0, "add 9999 at 1\n", TEN, [0] * 3, [])
        self.fails(1, 0, "take 0 at 1\n", TEN, [0] * 3, [])
        self.fails(4, 1, "set a [0]\nfail\n", TEN, [0] * 3, [])


class KindFive(WorkTest):
    def act_cannot_be_done(self, step, before, rod=TWENTY, hand=HAND):
        digit = next(digit for digit, way in forms_of(tuple(rod)).items() if list(way) == before)
        self.fails(5, 0, "add 1 at 0\n", rod, before, [[0, 1, digit, *step]], hand=hand)
        self.fails(5, 0, "take 1 at 1\n", make_of(TWO, rod), [0] * 3 + before, [[1, 1, digit, *step]], hand=hand)
        if digit > 0:
            book = [[0, 1, 0, *CARRY], [0, 1, digit, *step]]
            self.fails(5, 0, "add 1 at 0\n", make_of(rod, rod), [0] * 3 + before, book, hand=hand)

    def act_is_done(self, step, before, after, rod=TWENTY, hand=HAND):
        digit = next(digit for digit, way in forms_of(tuple(rod)).items() if list(way) == before)
        cost = hand[1 + 7 * step[0] + 6]
        self.ends(1, cost, after, "add 1 at 0\n", rod, before, [[0, 1, digit, *step]], hand=hand)

    def test_a_stroke_that_the_hand_does_not_have(self):
        self.act_is_done([6, 1, 1], [1, 0, 0], [0, 0, 1])
        self.act_cannot_be_done([7, 1, 0], [0, 0, 0])
        self.act_cannot_be_done([31, 1, 0], [0, 0, 0])
        self.act_cannot_be_done([0, 1, 0], [0, 0, 0], hand=[5])

    def test_more_beads_than_the_strokes_most(self):
        hand = [0, 0, 1, 3, 0, 0, 0, 1, 0, 2, 3, 0, 0, 0, 1, 1, 1, 1, 0, 2, 2, 1]
        self.act_is_done([0, 3, 0], [0, 0, 0], [3, 0, 0], hand=hand)
        self.act_cannot_be_done([0, 4, 0], [0, 0, 0], hand=hand)
        self.act_is_done([1, 3, 0], [4, 0, 0], [1, 0, 0], hand=hand)
        self.act_cannot_be_done([1, 4, 0], [4, 0, 0], hand=hand)
        self.act_is_done([2, 1, 2], [4, 0, 0], [2, 1, 0], hand=hand)
        self.act_cannot_be_done([2, 1, 3], [4, 0, 0], hand=hand)
        self.act_cannot_be_done([2, 2, 2], [4, 0, 0], hand=hand)

    def test_a_second_deck_that_is_told_beads_or_none(self):
        self.act_is_done([UP, 1, 0], [0, 0, 0], [1, 0, 0])
        self.act_cannot_be_done([UP, 1, 1], [0, 0, 0])
        self.act_cannot_be_done([FIVE_UP, 1, 1], [0, 0, 0])
        self.act_cannot_be_done([DOWN, 1, 15], [4, 1, 1])
        self.act_is_done([DOWN_FIVE_UP, 1, 1], [1, 0, 0], [0, 1, 0])
        self.act_cannot_be_done([DOWN_FIVE_UP, 1, 0], [1, 0, 0])
        self.act_cannot_be_done([UP_FIVE_DOWN, 1, 0], [0, 1, 0])

    def test_beads_that_do_not_stand_on_the_side(self):
        self.act_is_done([UP, 4, 0], [0, 0, 0], [4, 0, 0])
        self.act_is_done([UP, 1, 0], [3, 1, 1], [4, 1, 1])
        self.act_cannot_be_done([UP, 4, 0], [1, 0, 0])
        self.act_cannot_be_done([UP, 1, 0], [4, 1, 1])
        self.act_is_done([DOWN, 4, 0], [4, 0, 0], [0, 0, 0])
        self.act_cannot_be_done([DOWN, 4, 0], [3, 1, 1])
        self.act_cannot_be_done([DOWN, 1, 0], [0, 1, 1])
        self.act_cannot_be_done([FIVE_UP, 1, 0], [0, 1, 0])
        self.act_cannot_be_done([FIVE_DOWN, 1, 0], [4, 0, 1])

    def test_beads_of_the_second_deck_that_do_not_stand_on_the_side(self):
        self.act_is_done([UP_FIVE_DOWN, 4, 1], [0, 1, 0], [4, 0, 0])
        self.act_cannot_be_done([UP_FIVE_DOWN, 4, 1], [0, 0, 1])
        self.act_cannot_be_done([UP_FIVE_DOWN, 4, 1], [1, 1, 0])
        self.act_is_done([DOWN_FIVE_UP, 3, 1], [3, 0, 0], [0, 1, 0])
        self.act_cannot_be_done([DOWN_FIVE_UP, 3, 1], [3, 1, 0])
        self.act_cannot_be_done([DOWN_FIVE_UP, 3, 1], [2, 0, 0])
        self.act_is_done([THIRD_UP_DOWN, 1, 2], [2, 0, 0], [0, 0, 1])
        self.act_cannot_be_done([THIRD_UP_DOWN, 1, 2], [1, 0, 0])
        self.act_cannot_be_done([THIRD_UP_DOWN, 1, 2], [2, 0, 1])

    def test_a_deck_that_is_not_on_the_rod(self):
        self.act_cannot_be_done([FIVE_UP, 1, 0], [0, 0, 0], rod=SOVIET)
        self.act_cannot_be_done([FIVE_DOWN, 1, 0], [3, 0, 0], rod=SOVIET)
        self.act_cannot_be_done([THIRD_UP_DOWN, 1, 1], [3, 0, 0], rod=TEN)
        self.act_cannot_be_done([DOWN_FIVE_UP, 1, 1], [3, 0, 0], rod=SOVIET)
        self.act_is_done([DOWN_FIVE_UP, 1, 1], [3, 0, 0], [2, 1, 0], rod=TEN)

    def test_a_second_act_that_cannot_be_done_behind_the_first(self):
        self.fails(5, 0, "add 1 at 0\n", TEN, [0] * 3, [[0, 1, 0, UP, 3, 0, UP, 2, 0]])
        self.ends(2, 10, [4, 0, 0], "add 1 at 0\n", TEN, [0] * 3, [[0, 1, 0, UP, 3, 0, UP, 1, 0]])

    # A rule that leaves rod 0 out of form: 5 pushed as five beads, and 10 and more.
    ILL = [[0, 1, 0, 0, 5, 0], [0, 2, 0, 2, 2, 0], [0, 3, 0], [0, 1, 1, *CARRY], [0, 4, 0, 0, 5, 0, *CARRY, *CARRY]]
    BIG_HAND = [1, 0, 1, 15, 0, 0, 0, 1, 0, 2, 15, 0, 0, 0, 1, 1, 1, 15, 0, 0, 0, 1, 1, 2, 15, 0, 0, 0, 1]

    def test_a_digit_not_in_form_that_is_looked_at(self):
        for amount in (1, 2):
            text = f"add {amount} at 0\n"
            left = [5, 0, 0] if amount == 1 else [0, 2, 0]
            self.ends(1, 1, left + [0] * 3, text, CHINESE * 2, [0] * 6, self.ILL, hand=self.BIG_HAND)
            for line in ("set a [0]\n", "add [0] at 1\n", "add 0 at [0]\n", "if [0]=0\nend\n", "while 0=[0]\nend\n",
                         "set a [[0]]\n", "set a 1+[1-1]\n"):
                self.fails(5, 1, text + line, CHINESE * 2, [0] * 6, self.ILL, hand=self.BIG_HAND)
            self.ends(1, 1, left + [0] * 3, text + "set a [1]\n", CHINESE * 2, [0] * 6, self.ILL, hand=self.BIG_HAND)

    def test_a_rod_not_in_form_that_is_added_to(self):
        for amount in (1, 2):
            text = f"add {amount} at 0\n"
            left = [5, 0, 0] if amount == 1 else [0, 2, 0]
            for line in ("add 1 at 0\n", "add 3 at 0\n", "add 9 at 0\n", "take 1 at 0\n", "add 11 at 0\n"):
                self.fails(5, 1, text + line, CHINESE * 2, [0] * 6, self.ILL, hand=self.BIG_HAND)
            for line in ("add 0 at 0\n", "add 3 at 1\n", "take 30 at 0\n"):
                self.ends(1, 1, left + [0] * 3, text + line, CHINESE * 2, [0] * 6, self.ILL, hand=self.BIG_HAND)

    def test_a_rod_not_in_form_that_is_carried_to(self):
        standing = [1, 0, 0] + [0] * 3
        self.fails(5, 1, "add 2 at 1\nadd 1 at 0\n", CHINESE * 2, standing, self.ILL, hand=self.BIG_HAND)
        self.ends(1, 2, [1, 0, 0, 5, 0, 0], "add 1 at 0\n", CHINESE * 2, standing, self.ILL, hand=self.BIG_HAND)
        # The second carry finds what the first one left.
        self.fails(5, 0, "add 4 at 0\n", CHINESE * 2, [0] * 6, self.ILL, hand=self.BIG_HAND)

    def test_a_rod_not_in_form_whose_rule_has_no_steps(self):
        self.fails(5, 1, "add 1 at 0\ntake 5 at 0\n", CHINESE, [0] * 3, self.ILL, hand=self.BIG_HAND)

    def test_within_a_sum_the_first_fault_counts(self):
        # Rod 1 comes first: an act there that can't be done, or a carry at the leftmost rod.
        wrong, over = [0, 2, 0, 31, 1, 0], [0, 3, 0, *CARRY]
        self.fails(5, 0, "add 23 at 0\n", TEN * 2, [0] * 6, [wrong, over])
        self.fails(2, 0, "add 32 at 0\n", TEN * 2, [0] * 6, [wrong, over])
        self.ends(0, 0, [0] * 6, "add 3 at 0\n", TEN * 2, [0] * 6, [wrong, over])
        self.fails(5, 0, "add 2 at 0\n", TEN * 2, [0] * 6, [wrong, over])

    def test_a_rod_that_is_not_there_is_kind_1(self):
        self.fails(1, 0, "set a [2]\n", TEN * 2, [0] * 6, [])
        self.fails(1, 0, "set a [0-1]\n", TEN * 2, [0] * 6, [])
        self.fails(1, 1, "add 1 at 0\nset a [2]\n", CHINESE * 2, [0] * 6, self.ILL, hand=self.BIG_HAND)


class SumsAsLongAsMayBe(WorkTest):
    """Rods 1 to 14 show 0 and carry twice, rod 15 shows 1 and has no rule.

    So a carry from rod 0 with all that it brings along is 2 ** 15 - 1 steps.
    """

    MAKE = THREE * 16
    BEFORE = [0] * 45 + [1, 0, 0]
    CHAIN = [0, 1, 0, *CARRY, *CARRY]

    def rule(self, *steps):
        return [self.CHAIN, [0, 2, 0, *CARRY, *CARRY, *[number for step in steps for number in step]]]

    def test_65536_steps_and_one_more(self):
        up, down = [UP, 1, 0], [DOWN, 1, 0]
        self.ends(0, 0, self.BEFORE, "add 2 at 0\n", self.MAKE, self.BEFORE, self.rule())
        self.ends(1, 5, [1, 0, 0] + self.BEFORE[3:], "add 2 at 0\n", self.MAKE, self.BEFORE, self.rule(up))
        self.ends(2, 12, self.BEFORE, "add 2 at 0\n", self.MAKE, self.BEFORE, self.rule(up, down))
        self.fails(5, 0, "add 2 at 0\n", self.MAKE, self.BEFORE, self.rule(up, down, up))
        self.fails(5, 0, "add 2 at 0\n", self.MAKE, self.BEFORE, self.rule(up, down, CARRY))

    def test_rods_carry_without_end_in_sight(self):
        book = [[0, 1, 0, *CARRY * 10], [1, 1, 0, *CARRY * 10]]
        for make, digit in ((TEN * 64, 1), (TWENTY * 30, 1)):
            standing = [0] * (len(make) // 7 * 3 - 3) + [digit, 0, 0]
            self.fails(5, 0, "add 1 at 0\n", make, standing, book)
            self.fails(5, 0, "take 1 at 0\n", make, standing, book)

    def test_each_sum_has_its_own_steps(self):
        book = self.rule([UP, 1, 0], [DOWN, 1, 0])
        self.ends(6, 36, self.BEFORE, "add 2 at 0\n" * 3, self.MAKE, self.BEFORE, book)

    def test_all_digits_of_a_sum_count_together(self):
        # 1 at rod 1 is 2 ** 15 - 2 steps, 2 at rod 0 as above.
        self.fails(5, 0, "add 5 at 0\n", self.MAKE, self.BEFORE, self.rule())
        # 1 at rod 0 and at rod 1: 2 ** 16 - 2 and 2 ** 15 - 2 steps; 1 at rod 0 alone has room.
        self.fails(5, 0, "add 4 at 0\n", self.MAKE, self.BEFORE, [self.CHAIN])
        self.ends(0, 0, self.BEFORE, "add 1 at 0\n", self.MAKE, self.BEFORE, [self.CHAIN])
        self.ends(0, 0, self.BEFORE, "add 1 at 1\n", self.MAKE, self.BEFORE, [self.CHAIN])
        self.ends(0, 0, self.BEFORE, "add 4 at 1\n", self.MAKE, self.BEFORE, [self.CHAIN])

    def test_a_sum_is_one_step_of_the_run(self):
        text = "add 2 at 0\nstop\n"
        book = self.rule([UP, 1, 0], [DOWN, 1, 0])
        self.assertEqual(ask(text, self.MAKE, self.BEFORE, book, most=1), [-8])
        self.assertEqual(ask(text, self.MAKE, self.BEFORE, book, most=2), [0, 2, 2, 12, *self.BEFORE])


class TheStepThatIsOneTooMany(WorkTest):
    """Rods 0 to 15 show 10 and carry twice; rods 16 to 19 count, by a right rule, how often they are carried to."""

    MAKE = make_of(*[TWENTY] * 16, *[rod_of(10)] * 5)
    HAND = [0, 0, 1, 1, 0, 0, 0, 1, 0, 2, 9, 0, 0, 0, 1, 2, 2, 1, 0, 0, 0, 1, 2, 1, 1, 0, 0, 0, 1]
    COUNT = [[0, 1, x, 0, 1, 0] for x in range(9)] + [[0, 1, 9, 1, 9, 0, *CARRY], [0, 1, 10, *CARRY * 2]]

    def before(self, left):
        """The rods that count have room for so many carries."""
        return standing_of([10] * 16 + digits_of(99999 - left, [10] * 5), self.MAKE)

    def book(self, idle):
        """Adding 2 begins with so many acts more, each of which pushes the one bead of deck 2."""
        acts = [2, 1, 0, 3, 1, 0] * 4
        return self.COUNT + [[0, 2, 10, *acts[:3 * idle], *CARRY * 2]]

    def step_of_the_fault(self, left, idle=0):
        """Which step is the carry at the leftmost rod, found by a frame on which a sum may be of any length."""
        frame = BeadFrame(self.MAKE, self.before(left), self.HAND, self.book(idle), 0)
        frame.limit = 10 ** 9
        with self.assertRaises(Kind) as raised:
            frame.change("add", 2, 0)
        self.assertEqual(raised.exception.args, (2,))
        return frame.limit - frame.left

    def test_a_carry_at_the_leftmost_rod(self):
        least, most = 16000, 24000
        while most - least > 1:
            left = (least + most) // 2
            if self.step_of_the_fault(left) <= 65535:
                least = left
            else:
                most = left
        step = self.step_of_the_fault(least)
        self.assertIn(step, range(65530, 65536))
        for idle in range(9):
            self.assertEqual(self.step_of_the_fault(least, idle), step + idle)
            kind = 2 if step + idle <= 65536 else 5
            self.fails(kind, 0, "add 2 at 0\n", self.MAKE, self.before(least), self.book(idle), hand=self.HAND)


if __name__ == "__main__":
    unittest.main()
