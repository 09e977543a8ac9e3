"""What the call run refuses ahead of any step, and in which order."""

import itertools
import unittest

from abacusways.methods import run
from helper import FIVE, MOST, NO_MARKS, TEN, THREE, TWENTY, TWO, bytes_of, make_of

LARGE = 4294967295
LARGEST_V = 2 ** 300 - 1

LONG_TEXT = list(b"stop\n" * 819 + b"st")
FAULTY_MAKE = make_of(TEN, [1, 9, 1, 0, 0, 0, 0])
FAULTY_TEXT = list(b"stop\nfoil\n")


def ask(v=0, most=10, make=TEN, marks=NO_MARKS, text=b"stop\n"):
    return run(v, most, list(make), list(marks), list(text))


class EachByItself(unittest.TestCase):
    def test_nothing_to_refuse(self):
        self.assertEqual(ask(), [0, 1, 0])
        self.assertEqual(ask(v=9), [0, 1, 9])

    def test_4096_and_4097_bytes(self):
        text = list(b"set a 10\nadd 1 at 11\n" + b"stop\n" * 815)
        self.assertEqual(len(text), 4096)
        self.assertEqual(ask(text=text[21:]), [0, 1, 0])
        self.assertEqual(ask(text=text), [-9, 1, 1])
        self.assertEqual(ask(text=[10] + text), [-6])
        self.assertEqual(ask(text=LONG_TEXT), [-6])
        self.assertEqual(ask(text=[0] * 5000), [-6])

    def test_a_makes_fault(self):
        self.assertEqual(ask(make=[]), [-5, 1, 0])
        self.assertEqual(ask(make=TEN[:6]), [-5, 1, 0])
        self.assertEqual(ask(make=FAULTY_MAKE), [-5, 2, 1])
        self.assertEqual(ask(make=make_of(TEN, TEN, [2, 15, 18, 0, 0, 0, 0])), [-5, 3, 2])
        self.assertEqual(ask(make=[10, 8, 1, 0, 0, 0, 0]), [-5, 4, 0])

    def test_a_methods_fault(self):
        self.assertEqual(ask(text=FAULTY_TEXT), [-5, 11, 6])
        self.assertEqual(ask(text=b"end\n"), [-5, 11, 0])
        self.assertEqual(ask(text=b"stop"), [-5, 11, 4])
        self.assertEqual(ask(text=b"if a=0\n" * 16 + b"if a=0\n"), [-5, 11, 112])

    def test_seven_eight_and_nine_marks(self):
        for count in (0, 1, 7, 9, 16, 20):
            self.assertEqual(ask(marks=[0] * count), [-1])
        self.assertEqual(ask(marks=[0] * 8), [0, 1, 0])

    def test_a_mark_of_63_and_of_64(self):
        for place in range(8):
            for number in (0, 1, 62, 63):
                self.assertEqual(ask(marks=[0] * place + [number] + [0] * (7 - place)), [0, 1, 0])
            for number in (64, 65, 255, 256, LARGE):
                self.assertEqual(ask(marks=[0] * place + [number] + [0] * (7 - place)), [-1])
        self.assertEqual(ask(marks=[63] * 8), [0, 1, 0])

    def test_most(self):
        self.assertEqual(ask(most=MOST), [0, 1, 0])
        for most in (16777217, 16777218, LARGE):
            self.assertEqual(ask(most=most), [-1])
            self.assertEqual(ask(most=most, text=b""), [-1])

    def test_v_below_the_span_and_just_the_span(self):
        for make, span in ((TEN, 10), (TWO, 2), (TWENTY, 20), (make_of(TEN, FIVE, THREE), 150),
                           (TWO * 64, 2 ** 64), (TEN * 64, 10 ** 64), (TWENTY * 64, 20 ** 64)):
            self.assertEqual(ask(v=0, make=make), [0, 1, 0])
            self.assertEqual(ask(v=span - 1, make=make), [0, 1, span - 1])
            for v in (span, span + 1, 2 * span, LARGEST_V - 1, LARGEST_V):
                self.assertEqual(ask(v=v, make=make), [-4])


class SeveralAtOnce(unittest.TestCase):
    # In the document's order.
    CAUSES = [
        ("text", LONG_TEXT, [-6]),
        ("make", FAULTY_MAKE, [-5, 2, 1]),
        ("text", FAULTY_TEXT, [-5, 11, 6]),
        ("marks", [0] * 7, [-1]),
        ("marks", [64] * 8, [-1]),
        ("most", MOST + 1, [-1]),
        ("v", LARGEST_V, [-4]),
        ("text", b"set a 0-1\n", [-9, 3, 0]),
    ]

    def test_the_first_is_answered(self):
        for size in range(1, 7):
            for causes in itertools.combinations(self.CAUSES, size):
                names = [name for name, wrong, answer in causes]
                if len(set(names)) == size:
                    with self.subTest(names=names):
                        handed = {name: wrong for name, wrong, answer in causes}
                        self.assertEqual(ask(**handed), causes[0][2])

    def test_they_come_ahead_of_a_run_that_is_too_long(self):
        for name, wrong, answer in self.CAUSES[:-1]:
            if name != "most":
                self.assertEqual(ask(**{"most": 0, name: wrong}), answer)
        self.assertEqual(ask(most=0), [-8])
        self.assertEqual(ask(most=0, text=b"fail\n"), [-8])


class WhatIsHandedIn(unittest.TestCase):
    def test_it_stays_as_it_was(self):
        for make in (TEN * 3, FAULTY_MAKE, []):
            for marks in ([1, 2, 3, 4, 5, 6, 7, 8], [0] * 7, [64] * 8):
                for text in (b"add A at B\nset a 9\nset b a+[0]\n", FAULTY_TEXT, LONG_TEXT, b"fail\n", b"add 1 at 9\n"):
                    handed = [list(make), list(marks), list(text)]
                    run(5, 3, *handed)
                    self.assertEqual(handed, [list(make), list(marks), list(text)])

    def test_one_call_changes_no_other(self):
        calls = [
            ((5, 9, TEN * 2, [1] * 8, bytes_of("set a A\nadd a at a\n")), [0, 2, 15]),
            ((5, 9, TEN * 2, NO_MARKS, bytes_of("add a+A at A\n")), [0, 1, 5]),
            ((5, 1, TEN * 2, NO_MARKS, bytes_of("set h 7\nset g 7\n")), [-8]),
            ((5, 9, TEN * 2, NO_MARKS, bytes_of("add h at 0\n")), [0, 1, 5]),
            ((5, 9, TWO * 2, NO_MARKS, []), [-4]),
            ((3, 9, TWO * 2, NO_MARKS, []), [0, 0, 3]),
            ((5, 9, TEN * 2, NO_MARKS, bytes_of("add [0] at 0\nadd 8 at 1\nadd 1 at 1\n")), [-9, 2, 2]),
            ((5, 9, TEN * 2, NO_MARKS, bytes_of("set h")), [-5, 11, 5]),
        ]
        for order in (calls, calls[::-1], calls[::2] + calls[1::2], calls * 2):
            for handed, answer in order:
                self.assertEqual(run(*handed), answer)

    def test_an_answer_may_be_changed_by_who_gets_it(self):
        for handed in ((5, 9, TEN, NO_MARKS, []), (5, 9, [], NO_MARKS, []), (50, 9, TEN, NO_MARKS, [])):
            first = run(*handed)
            kept = list(first)
            first.append(1)
            first[0] = 99
            self.assertEqual(run(*handed), kept)

    def test_the_arguments_have_their_names(self):
        self.assertEqual(run(v=5, most=1, make=TEN, marks=[2] * 8, text=bytes_of("add A at 0\n")), [0, 1, 7])

    def test_an_answer_is_a_list_of_whole_numbers(self):
        for v, most, text in ((5, 9, b""), (5, 9, b"fail\n"), (5, 0, b"fail\n"), (10, 0, b""), (0, 0, b"x")):
            answer = run(v, most, TEN, NO_MARKS, list(text))
            self.assertIs(type(answer), list)
            self.assertEqual([type(number) for number in answer], [int] * len(answer))


if __name__ == "__main__":
    unittest.main()
