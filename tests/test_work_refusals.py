"""What the call work refuses ahead of any step, and in which order."""

import itertools
import unittest

from abacusways.methods import work
from helper import CHINESE, FIVE, MOST, NO_MARKS, TEN, TWENTY, TWO, bytes_of, make_of, single_strokes, standing_of

LARGE = 4294967295

HAND = single_strokes(3)
STROKE = [0, 1, 4, 1, 2, 1, 9]
ACT = [0, 1, 0]
CARRY = [0, 0, 0]
ROW = [0, 1, 1] + ACT + CARRY

LONG_TEXT = list(b"stop\n" * 819 + b"st")
FAULTY_MAKE = make_of(TEN, [1, 9, 1, 0, 0, 0, 0])


def ask(h=0, most=10, make=TEN * 2, hand=HAND, standing=None, marks=NO_MARKS, text=b"stop\n", book=()):
    standing = [0] * (len(make) // 7 * 3) if standing is None else standing
    return work(h, most, list(make), list(hand), list(standing), list(marks), list(text), [list(row) for row in book])


class WorkTest(unittest.TestCase):
    def passes(self, **handed):
        with self.subTest(**handed):
            answer = ask(**handed)
            self.assertEqual(answer[:4], [0, 1, 0, 0])

    def fails(self, rule, place, **handed):
        with self.subTest(**handed):
            self.assertEqual(ask(**handed), [-5, rule, place])


class HandsFaults(WorkTest):
    def is_stroke(self, stroke):
        self.passes(hand=[0] + stroke)
        self.passes(hand=[0] + STROKE * 31 + stroke)

    def is_no_stroke(self, stroke):
        self.fails(7, 0, hand=[0] + stroke)
        self.fails(7, 1, hand=[255] + STROKE + stroke)
        self.fails(7, 2, hand=[7] + STROKE * 2 + stroke + STROKE)
        self.fails(7, 31, hand=[0] + STROKE * 31 + stroke)

    def test_no_number_at_all(self):
        self.fails(6, 0, hand=[])

    def test_no_stroke_at_all(self):
        self.passes(hand=[0])
        self.passes(hand=[255])

    def test_moving_over(self):
        for moving in (0, 1, 254, 255):
            self.passes(hand=[moving] + STROKE)
        for moving in (256, 257, 511, LARGE):
            self.fails(6, 0, hand=[moving] + STROKE)
            self.fails(6, 0, hand=[moving])

    def test_not_seven_numbers_a_stroke(self):
        for size in range(1, 60):
            hand = ([5] + STROKE * 10)[:size]
            if size % 7 == 1:
                self.passes(hand=hand)
            else:
                self.fails(6, 0, hand=hand)
        self.fails(6, 0, hand=STROKE)
        self.fails(6, 0, hand=STROKE * 32)

    def test_32_and_33_strokes(self):
        self.passes(hand=[5] + STROKE * 32)
        self.fails(6, 0, hand=[5] + STROKE * 33)
        self.fails(6, 0, hand=[5] + STROKE * 42)
        self.fails(6, 0, hand=([5] + STROKE * 43)[:300])

    def test_rule_6_comes_ahead_of_rule_7(self):
        self.fails(6, 0, hand=[256] + [9] * 7)
        self.fails(6, 0, hand=[0] + [9] * 8)
        self.fails(6, 0, hand=[0] + [9] * 7 * 33)

    def test_the_deck(self):
        for deck in (0, 1, 2):
            self.is_stroke([deck, 1, 4, 0, 0, 0, 9])
        for deck in (3, 4, 255, LARGE):
            self.is_no_stroke([deck, 1, 4, 0, 0, 0, 9])
            self.is_no_stroke([deck, 1, 4, 0, 1, 4, 9])

    def test_the_direction(self):
        for direction in (1, 2):
            self.is_stroke([0, direction, 4, 0, 0, 0, 9])
        for direction in (0, 3, 4, LARGE):
            self.is_no_stroke([0, direction, 4, 0, 0, 0, 9])
            self.is_no_stroke([0, direction, 4, 1, 1, 4, 9])

    def test_the_most(self):
        for most in (1, 2, 14, 15):
            self.is_stroke([0, 1, most, 0, 0, 0, 9])
        for most in (0, 16, 17, LARGE):
            self.is_no_stroke([0, 1, most, 0, 0, 0, 9])
            self.is_no_stroke([0, 1, most, 1, 1, 4, 9])

    def test_the_cost(self):
        for cost in (1, 2, 254, 255):
            self.is_stroke([0, 1, 4, 0, 0, 0, cost])
        for cost in (0, 256, 257, LARGE):
            self.is_no_stroke([0, 1, 4, 0, 0, 0, cost])
            self.is_no_stroke([0, 1, 4, 1, 1, 4, cost])

    def test_the_second_deck(self):
        for deck, other in itertools.permutations(range(3), 2):
            self.is_stroke([deck, 1, 4, other, 1, 4, 9])
        for deck in range(3):
            self.is_no_stroke([deck, 1, 4, deck, 1, 4, 9])
            self.is_no_stroke([deck, 1, 4, deck, 2, 4, 9])
        for other in (3, 4, LARGE):
            self.is_no_stroke([0, 1, 4, other, 1, 4, 9])

    def test_its_direction_and_its_most(self):
        for direction in (1, 2):
            self.is_stroke([1, 1, 4, 0, direction, 4, 9])
            self.is_stroke([0, 1, 4, 1, direction, 4, 9])
        for direction in (0, 3, LARGE):
            self.is_no_stroke([1, 1, 4, 0, direction, 4, 9])
            self.is_no_stroke([0, 1, 4, 1, direction, 4, 9])
        for most in (1, 15):
            self.is_stroke([1, 1, 4, 0, 1, most, 9])
        for most in (0, 16, LARGE):
            self.is_no_stroke([1, 1, 4, 0, 1, most, 9])
            self.is_no_stroke([0, 1, 4, 1, 1, most, 9])

    def test_no_second_deck_with_numbers_left_beside_it(self):
        for deck in range(3):
            self.is_no_stroke([deck, 1, 4, 0, 0, 1, 9])
            self.is_no_stroke([deck, 1, 4, 1, 0, 0, 9])
            self.is_no_stroke([deck, 1, 4, 2, 0, 0, 9])
            self.is_no_stroke([deck, 1, 4, 0, 1, 0, 9])
            self.is_no_stroke([deck, 1, 4, 3, 0, 0, 9])

    def test_the_first_of_several(self):
        wrong = [3, 1, 4, 0, 0, 0, 9]
        self.fails(7, 1, hand=[0] + STROKE + wrong + STROKE + wrong)
        self.fails(7, 0, hand=[0] + wrong * 32)

    def test_a_strokes_decks_need_not_be_on_a_rod(self):
        self.passes(make=TWO * 2, hand=[0] + [1, 1, 15, 2, 2, 15, 9])
        self.passes(make=TWO * 2, hand=HAND, book=[[0, 1, 0, 2, 15, 15]])


class StandingsFaults(WorkTest):
    MAKE = make_of(TEN, CHINESE, TWENTY, TWO)
    MOST_PUSHED = [4, 1, 0, 5, 2, 0, 4, 1, 1, 1, 0, 0]

    def test_not_three_numbers_a_rod(self):
        for size in range(40):
            if size != 12:
                self.fails(5, size, make=self.MAKE, standing=[0] * size)
                self.fails(5, size, make=self.MAKE, standing=[LARGE] * size)
        self.fails(5, 250, make=TEN * 64, standing=[0] * 250)
        self.fails(5, 0, make=TEN, standing=[])
        self.fails(5, 4, make=TEN, standing=[0] * 4)

    def test_as_many_beads_as_there_are(self):
        # Not in form, which is asked later.
        self.assertEqual(ask(make=self.MAKE, standing=self.MOST_PUSHED), [-3])

    def test_more_beads_than_there_are(self):
        for place, beads in enumerate(self.MOST_PUSHED):
            for more in (beads + 1, beads + 2, 255, 256, LARGE):
                standing = [0] * 12
                standing[place] = more
                self.fails(5, place, make=self.MAKE, standing=standing)

    def test_the_first_of_several(self):
        for place in range(12):
            self.fails(5, place, make=self.MAKE, standing=self.MOST_PUSHED[:place] + [16] * (12 - place))


class BooksFaults(WorkTest):
    def is_row(self, row):
        self.passes(book=[row])
        self.passes(book=[[0, 7, 7], [1, 7, 7], row])

    def is_no_row(self, row):
        self.fails(9, 0, book=[row])
        self.fails(9, 1, book=[ROW, row])
        self.fails(9, 2, book=[[0, 7, 7], [1, 7, 7], row, [1, 6, 6]])

    def test_no_row_at_all(self):
        self.passes(book=[])

    def test_how_many_numbers(self):
        steps = (ACT + CARRY) * 6
        for size in range(37):
            row = [1, 1, 1] + steps
            if size in (3, 6, 9, 12, 15, 18, 21, 24, 27, 30, 33):
                self.is_row(row[:size])
            else:
                self.is_no_row(row[:size])

    def test_op_d_and_x(self):
        for op in (0, 1):
            self.is_row([op, 5, 6] + ACT)
        for op in (2, 3, LARGE):
            self.is_no_row([op, 5, 6] + ACT)
        for number in (0, 1, 18, 19):
            self.is_row([0, number, 6] + ACT)
            self.is_row([0, 5, number] + ACT)
        for number in (20, 21, LARGE):
            self.is_no_row([0, number, 6] + ACT)
            self.is_no_row([0, 5, number] + ACT)

    def step(self, known, step):
        for steps in (step, ACT + step, step + CARRY, ACT * 9 + step):
            if known:
                self.is_row([0, 5, 6] + steps)
            else:
                self.is_no_row([0, 5, 6] + steps)

    def test_the_stroke(self):
        for stroke in (0, 1, 30, 31):
            self.step(True, [stroke, 1, 0])
        for stroke in (32, 33, LARGE):
            self.step(False, [stroke, 1, 0])

    def test_n(self):
        for n in (1, 2, 14, 15):
            self.step(True, [4, n, 0])
        for n in (16, 17, LARGE):
            self.step(False, [4, n, 0])

    def test_k(self):
        for k in (0, 1, 14, 15):
            self.step(True, [4, 1, k])
        for k in (16, 17, LARGE):
            self.step(False, [4, 1, k])

    def test_n_of_0_in_a_step_that_is_no_carry(self):
        self.step(True, CARRY)
        self.step(False, [1, 0, 0])
        self.step(False, [0, 0, 1])
        self.step(False, [1, 0, 1])
        self.step(False, [31, 0, 15])
        self.step(False, [32, 0, 0])
        self.step(False, [0, 0, 16])

    def test_a_rule_told_twice(self):
        self.fails(9, 1, book=[ROW, ROW])
        self.fails(9, 1, book=[[0, 1, 1], [0, 1, 1]])
        self.fails(9, 3, book=[[0, 1, 2], [0, 2, 1], [1, 1, 2], [0, 1, 2] + ACT, [0, 1, 2]])
        self.passes(book=[[0, 1, 2], [1, 1, 2], [0, 2, 1], [0, 2, 2], [0, 1, 1]])
        self.passes(book=[[0, 0, 0], [0, 0, 19], [1, 19, 0], [1, 19, 19]])

    def test_all_rules_told_and_one_more(self):
        rows = [[op, d, x] + ACT * 10 for op in (0, 1) for d in range(20) for x in range(20)]
        self.passes(book=rows)
        self.fails(9, 800, book=rows + [[1, 19, 19]])
        self.fails(9, 800, book=rows + rows[:20])

    def test_the_first_of_several(self):
        self.fails(9, 1, book=[ROW, [2, 0, 0], [0], ROW])
        self.fails(9, 1, book=[ROW, ROW, [2, 0, 0]])
        self.fails(9, 0, book=[[], ROW, ROW])


class EachByItself(WorkTest):
    def test_nothing_to_refuse(self):
        self.assertEqual(ask(), [0, 1, 0, 0, 0, 0, 0, 0, 0, 0])

    def test_4096_and_4097_bytes(self):
        text = list(b"set a 10\nadd 1 at 11\n" + b"stop\n" * 815)
        self.assertEqual(ask(text=text), [-9, 1, 1])
        self.assertEqual(ask(text=[10] + text), [-6])
        self.assertEqual(ask(text=[0] * 5000), [-6])

    def test_a_makes_and_a_methods_fault(self):
        self.fails(1, 0, make=[])
        self.fails(2, 1, make=FAULTY_MAKE)
        self.fails(3, 2, make=make_of(TEN, TEN, [2, 15, 18, 0, 0, 0, 0]))
        self.fails(4, 0, make=[10, 8, 1, 0, 0, 0, 0])
        self.fails(11, 6, text=b"stop\nfoil\n")
        self.fails(11, 1, text=b"s")

    def test_marks(self):
        for count in (0, 7, 9, 20):
            self.assertEqual(ask(marks=[0] * count), [-1])
        for place in range(8):
            self.passes(marks=[0] * place + [63] + [0] * (7 - place))
            self.assertEqual(ask(marks=[0] * place + [64] + [0] * (7 - place)), [-1])

    def test_most(self):
        self.passes(most=MOST)
        self.assertEqual(ask(most=MOST + 1), [-1])
        self.assertEqual(ask(most=LARGE), [-1])

    def test_h_the_last_rod_and_one_past_it(self):
        for rods in (1, 2, 10, 64):
            self.passes(h=rods - 1, make=TEN * rods)
            for h in (rods, rods + 1, 7 * rods, LARGE):
                self.assertEqual(ask(h=h, make=TEN * rods), [-1])

    def test_a_standing_that_is_not_in_form(self):
        make = make_of(TEN, CHINESE, TWENTY)
        for rod, pushed in ((0, [5, 0, 0]), (1, [5, 1, 0]), (1, [0, 2, 0]), (1, [5, 0, 0]), (1, [4, 2, 0])):
            standing = [0] * 9
            standing[3 * rod:3 * rod + 3] = pushed
            answer = [-5, 5, 0] if rod == 0 else [-3]
            self.assertEqual(ask(make=make, standing=standing), answer)
        self.passes(make=make, standing=standing_of([9, 9, 19], make))


class SeveralAtOnce(unittest.TestCase):
    # In the document's order.
    CAUSES = [
        ("text", LONG_TEXT, [-6]),
        ("make", FAULTY_MAKE, [-5, 2, 1]),
        ("hand", [256], [-5, 6, 0]),
        ("hand", [0] + [0] * 7, [-5, 7, 0]),
        ("standing", [0] * 5, [-5, 5, 5]),
        ("standing", [0, 2, 0, 0, 0, 0], [-5, 5, 1]),
        ("book", [[0]], [-5, 9, 0]),
        ("text", b"stop\nfoil\n", [-5, 11, 6]),
        ("marks", [0] * 7, [-1]),
        ("most", MOST + 1, [-1]),
        ("h", 2, [-1]),
        ("standing", [0, 0, 0, 5, 0, 0], [-3]),
        ("text", b"set a 0-1\n", [-9, 3, 0]),
    ]

    def test_the_first_is_answered(self):
        for size in range(1, 9):
            for causes in itertools.combinations(self.CAUSES, size):
                names = [name for name, wrong, answer in causes]
                if len(set(names)) == size:
                    handed = {"make": make_of(TEN, CHINESE)} | {name: wrong for name, wrong, answer in causes}
                    if ask(**handed) != causes[0][2]:
                        self.fail(f"{names}: {ask(**handed)}, not {causes[0][2]}")

    def test_they_come_ahead_of_a_run_that_is_too_long(self):
        for name, wrong, answer in self.CAUSES[:-1]:
            if name != "most":
                handed = {"make": make_of(TEN, CHINESE), "most": 0, name: wrong}
                self.assertEqual(ask(**handed), answer)
        self.assertEqual(ask(most=0), [-8])
        self.assertEqual(ask(most=0, text=b"fail\n"), [-8])


class Unchanging(list):
    """A list that may not be changed, not for a while either."""

    def refuse(self, *handed, **named):
        raise AssertionError("what was handed in is changed")

    append = extend = insert = pop = remove = clear = sort = reverse = refuse
    __setitem__ = __delitem__ = __iadd__ = __imul__ = refuse


class WhatIsHandedIn(unittest.TestCase):
    MAKE = make_of(TEN, TEN, TEN)
    BOOK = [[0, 1, 9, 1, 4, 0, 3, 1, 0, 0, 0, 0], [0, 1, 0, 0, 1, 0], [0, 1, 1, 5, 1, 0]]
    TEXT = b"add 1 at 0\nset a [1]\nadd a at 1\n"

    def calls(self):
        """Calls of many outcomes, with what they answer."""
        nine = [4, 1, 0] * 2 + [0] * 3
        zero = [0] * 9
        ten = [0, 0, 0, 1, 0, 0, 0, 0, 0]
        return [
            ((1, 3, self.MAKE, HAND, nine, NO_MARKS, self.TEXT, self.BOOK), [0, 3, 5, 22, *zero[:6], 1, 0, 0]),
            ((0, 3, self.MAKE, HAND, zero, NO_MARKS, self.TEXT, self.BOOK), [0, 3, 1, 1, 1, *zero[:8]]),
            ((0, 9, self.MAKE, HAND, ten, NO_MARKS, self.TEXT, self.BOOK), [-9, 5, 2]),
            ((0, 2, self.MAKE, HAND, zero, NO_MARKS, self.TEXT, self.BOOK), [-8]),
            ((0, 9, self.MAKE, HAND, [4, 1, 0] * 3, NO_MARKS, self.TEXT, self.BOOK), [-9, 2, 0]),
            ((0, 9, self.MAKE, HAND, zero, [2] * 8, b"add A at 0\nset a A\n", self.BOOK), [0, 2, 0, 0, *zero]),
            ((0, 9, self.MAKE, [0], zero, NO_MARKS, self.TEXT, self.BOOK), [-9, 5, 0]),
            ((3, 9, self.MAKE, HAND, zero, NO_MARKS, self.TEXT, self.BOOK), [-1]),
            ((0, 9, self.MAKE, HAND, zero[:8], NO_MARKS, self.TEXT, self.BOOK), [-5, 5, 8]),
            ((0, 9, self.MAKE, HAND, zero, NO_MARKS, self.TEXT, self.BOOK * 2), [-5, 9, 3]),
            ((0, 9, self.MAKE, HAND, zero, NO_MARKS, LONG_TEXT, self.BOOK), [-6]),
        ]

    def handed(self, kind, call):
        h, most, make, hand, standing, marks, text, book = call
        rows = kind([kind(row) for row in book])
        return h, most, kind(make), kind(hand), kind(standing), kind(marks), kind(text), rows

    def test_it_stays_as_it_was(self):
        for call, answer in self.calls():
            handed = self.handed(list, call)
            self.assertEqual(work(*handed), answer)
            self.assertEqual(handed, self.handed(list, call))

    def test_it_is_not_changed_for_a_while_either(self):
        for call, answer in self.calls():
            self.assertEqual(work(*self.handed(Unchanging, call)), answer)

    def test_one_call_changes_no_other(self):
        calls = [(self.handed(list, call), answer) for call, answer in self.calls()]
        for order in (calls, calls[::-1], calls[::2] + calls[1::2], calls * 3):
            for handed, answer in order:
                self.assertEqual(work(*handed), answer)

    def test_the_answer_is_a_list_of_its_own(self):
        for call, answer in self.calls():
            handed = self.handed(list, call)
            first = work(*handed)
            for number in range(len(first)):
                first[number] = 77
            first.append(1)
            self.assertEqual(work(*handed), answer)
            self.assertEqual(handed, self.handed(list, call))

    def test_the_arguments_have_their_names(self):
        answer = work(h=1, most=1, make=TEN * 2, hand=HAND, standing=[0] * 6, marks=[2] * 8,
                      text=bytes_of("add A-1 at 0\n"), book=[[0, 1, 0, 0, 1, 0]])
        self.assertEqual(answer, [0, 1, 1, 4, 1, 0, 0, 0, 0, 0])

    def test_an_answer_is_a_list_of_whole_numbers(self):
        for call, expected in self.calls():
            answer = work(*self.handed(list, call))
            self.assertIs(type(answer), list)
            self.assertEqual([type(number) for number in answer], [int] * len(answer))


if __name__ == "__main__":
    unittest.main()
