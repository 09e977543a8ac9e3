"""A make's faults, asked of the call run with a text of no line."""

import itertools
import random
import unittest

from abacusways.methods import run
from helper import CHINESE, FIVE, NO_MARKS, SOVIET, TEN, THREE, TWELVE, TWENTY, TWO, make_of, rod_of

LARGE = 4294967295


def ask(make):
    """What run answers of a make, with nothing to do on it."""
    return run(0, 0, make, NO_MARKS, [])


def told_rule(rod):
    """The rule that the rod breaks, looked for as the document tells it; 0 if none."""
    ratio, decks = rod[0], list(zip(rod[1::2], rod[2::2]))
    if decks[0][0] == 0 or (decks[2][0] > 0 and decks[1][0] == 0):
        return 2
    if any((beads > 0) != (worth > 0) for beads, worth in decks):
        return 2
    if ratio not in range(2, 21) or any(beads > 15 or worth > 63 for beads, worth in decks):
        return 2
    if sum(beads * worth for beads, worth in decks) > 255:
        return 3
    ways = itertools.product(*(range(beads + 1) for beads, worth in decks))
    counts = {sum(pushed * worth for pushed, (beads, worth) in zip(way, decks)) for way in ways}
    return 0 if set(range(ratio)) <= counts else 4


class MakeTest(unittest.TestCase):
    def is_make(self, make):
        with self.subTest(make=make):
            self.assertEqual(ask(make), [0, 0, 0])

    def fails(self, rule, place, make):
        with self.subTest(make=make):
            self.assertEqual(ask(make), [-5, rule, place])

    def rod_fails(self, rule, rod):
        """The rod has that fault, wherever it stands."""
        self.assertEqual(told_rule(rod), rule)
        self.fails(rule, 0, rod)
        self.fails(rule, 1, make_of(TEN, rod))
        self.fails(rule, 2, make_of(TWO, TEN, rod, TEN))
        self.fails(rule, 63, make_of(*[TEN] * 63, rod))


class Makes(MakeTest):
    def test_rods_of_many_kinds(self):
        for rod in (TEN, CHINESE, SOVIET, TWO, THREE, FIVE, TWELVE, TWENTY):
            self.is_make(rod)
        for ratio in range(2, 21):
            self.is_make(rod_of(ratio))
        self.is_make(make_of(TEN, CHINESE, SOVIET, TWO, THREE, FIVE, TWELVE, TWENTY))

    def test_decks_whose_worths_are_in_any_order(self):
        self.is_make([10, 1, 5, 4, 1, 0, 0])
        self.is_make([20, 1, 10, 4, 1, 1, 5])
        self.is_make([4, 1, 1, 1, 1, 1, 1])

    def test_what_all_beads_push_may_be_the_ratio_less_1_or_more(self):
        self.is_make([10, 9, 1, 0, 0, 0, 0])
        self.is_make([2, 15, 1, 15, 1, 15, 1])
        self.is_make([2, 1, 1, 1, 63, 3, 63])


class HowManyNumbers(MakeTest):
    def test_1_and_64_rods(self):
        self.is_make(TEN)
        self.is_make(TEN * 64)
        self.is_make(TWENTY * 64)

    def test_0_and_65_rods(self):
        self.fails(1, 0, [])
        self.fails(1, 0, TEN * 65)
        self.fails(1, 0, TEN * 71)

    def test_not_seven_numbers_a_rod(self):
        for size in (1, 2, 6, 8, 13, 15, 447, 449, 454, 456, 500):
            self.fails(1, 0, (TEN * 72)[:size])

    def test_it_comes_ahead_of_what_is_wrong_with_a_rod(self):
        self.fails(1, 0, [0])
        self.fails(1, 0, [0] * 8)
        self.fails(1, 0, [LARGE] * 455)
        self.fails(1, 0, make_of(TEN, [1, 0, 0, 0, 0, 0, 0]) + [0])


class Rule2(MakeTest):
    def test_ratio(self):
        for ratio in (0, 1, 21, 22, 255, 256, 258, LARGE):
            self.rod_fails(2, [ratio, 4, 1, 3, 5, 0, 0])
        self.is_make([2, 4, 1, 3, 5, 0, 0])
        self.is_make([20, 4, 1, 3, 5, 0, 0])

    def test_deck_0_without_beads(self):
        self.rod_fails(2, [10, 0, 0, 0, 0, 0, 0])
        self.rod_fails(2, [2, 0, 0, 9, 1, 0, 0])
        self.rod_fails(2, [2, 0, 0, 9, 1, 9, 1])
        self.rod_fails(2, [2, 0, 1, 9, 1, 0, 0])

    def test_beads_in_deck_2_and_none_in_deck_1(self):
        self.rod_fails(2, [10, 9, 1, 0, 0, 1, 5])
        self.rod_fails(2, [10, 9, 1, 0, 1, 1, 5])
        self.is_make([10, 9, 1, 1, 5, 0, 0])

    def test_worth_without_beads(self):
        self.rod_fails(2, [10, 9, 1, 0, 1, 0, 0])
        self.rod_fails(2, [10, 9, 1, 0, 0, 0, 1])
        self.rod_fails(2, [10, 9, 1, 1, 5, 0, 63])
        self.rod_fails(2, [10, 9, 1, 0, 64, 0, 0])

    def test_beads_without_worth(self):
        self.rod_fails(2, [10, 9, 0, 0, 0, 0, 0])
        self.rod_fails(2, [10, 9, 0, 9, 1, 0, 0])
        self.rod_fails(2, [10, 9, 1, 1, 0, 0, 0])
        self.rod_fails(2, [10, 9, 1, 1, 5, 1, 0])

    def test_beads(self):
        for beads in (16, 17, 255, 256, LARGE):
            self.rod_fails(2, [10, beads, 1, 0, 0, 0, 0])
            self.rod_fails(2, [10, 9, 1, beads, 1, 0, 0])
            self.rod_fails(2, [10, 9, 1, 1, 1, beads, 1])
        self.is_make([10, 15, 1, 15, 1, 15, 1])

    def test_worth(self):
        for worth in (64, 65, 255, 256, LARGE):
            self.rod_fails(2, [2, 1, worth, 1, 1, 0, 0])
            self.rod_fails(2, [10, 9, 1, 1, worth, 0, 0])
            self.rod_fails(2, [10, 9, 1, 1, 1, 1, worth])
        self.is_make([2, 1, 63, 1, 1, 1, 63])
        self.is_make([2, 1, 1, 1, 63, 1, 62])


class Rule3(MakeTest):
    def test_255_and_256(self):
        self.is_make([2, 3, 1, 4, 63, 0, 0])
        self.rod_fails(3, [2, 4, 1, 4, 63, 0, 0])
        self.is_make([10, 15, 1, 15, 1, 15, 15])
        self.rod_fails(3, [10, 15, 1, 15, 1, 15, 16])
        self.is_make([2, 15, 1, 15, 16, 0, 0])
        self.rod_fails(3, [2, 15, 1, 15, 16, 1, 1])
        self.rod_fails(3, [20, 15, 63, 15, 63, 15, 63])
        self.rod_fails(3, [2, 15, 18, 0, 0, 0, 0])


class Rule4(MakeTest):
    def test_all_beads_together_are_worth_too_little(self):
        self.rod_fails(4, [11, 4, 1, 1, 5, 0, 0])
        self.rod_fails(4, [10, 8, 1, 0, 0, 0, 0])
        self.rod_fails(4, [20, 3, 1, 1, 5, 1, 10])
        self.is_make([9, 8, 1, 0, 0, 0, 0])
        self.is_make([19, 3, 1, 3, 4, 1, 5])

    def test_a_number_between_cannot_be_pushed(self):
        self.rod_fails(4, [10, 3, 1, 1, 5, 1, 10])
        self.rod_fails(4, [10, 3, 1, 3, 5, 0, 0])
        self.rod_fails(4, [2, 15, 2, 15, 3, 0, 0])
        self.rod_fails(4, [3, 1, 1, 15, 3, 0, 0])
        self.is_make([5, 1, 1, 1, 2, 1, 3])

    def test_the_numbers_from_the_ratio_on_are_not_asked(self):
        self.is_make([4, 3, 1, 3, 5, 0, 0])
        self.rod_fails(4, [5, 3, 1, 3, 5, 0, 0])


class SeveralFaults(MakeTest):
    def test_the_first_rule_of_several_at_one_rod(self):
        self.rod_fails(2, [21, 15, 63, 0, 0, 0, 0])
        self.rod_fails(2, [20, 15, 63, 0, 1, 0, 0])
        self.rod_fails(2, [20, 1, 1, 0, 0, 1, 1])
        self.rod_fails(2, [20, 16, 63, 0, 0, 0, 0])
        self.rod_fails(3, [20, 15, 62, 0, 0, 0, 0])
        self.rod_fails(3, [2, 15, 2, 15, 20, 0, 0])

    def test_the_first_rod_of_several_that_are_faulty(self):
        second, third, fourth = [1, 9, 1, 0, 0, 0, 0], [2, 15, 18, 0, 0, 0, 0], [10, 8, 1, 0, 0, 0, 0]
        for rods in itertools.permutations([(second, 2), (third, 3), (fourth, 4)]):
            faulty = [rod for rod, rule in rods]
            self.fails(rods[0][1], 0, make_of(*faulty))
            self.fails(rods[0][1], 2, make_of(TEN, TWENTY, *faulty))
            self.fails(rods[0][1], 1, make_of(TEN, faulty[0], TEN, *faulty[1:]))

    def test_rods_by_chance(self):
        chance = random.Random(8)
        seen = set()
        for count in range(4000):
            mixed = [chance.randrange(2, 21), 3, 1, 2, 4, 2, 12]
            rod = list(chance.choice((TEN, CHINESE, SOVIET, FIVE, TWELVE, TWENTY, mixed)))
            for change in range(chance.randrange(3)):
                rod[chance.randrange(7)] = chance.choice((0, 1, 2, 3, 5, 10, 15, 16, 20, 21, 63, 64))
            rule = told_rule(rod)
            seen.add(rule)
            if rule == 0:
                self.is_make(make_of(TEN, rod))
            else:
                self.fails(rule, 1, make_of(TEN, rod))
        self.assertEqual(seen, {0, 2, 3, 4})


if __name__ == "__main__":
    unittest.main()
