"""The call run: what each kind of line does, its faults, and how many steps it takes."""

import unittest

from abacusways.methods import run
from helper import FIVE, MOST, NO_MARKS, TEN, THREE, TWENTY, TWO, bytes_of, make_of

FRAME = TEN * 4
# Ratios 10, 2, 5, 3, 20, so the places 1, 10, 20, 100, 300.
MIXED = make_of(TEN, TWO, FIVE, THREE, TWENTY)
MIXED_SPAN = 6000


def ask(text, v=0, most=MOST, make=FRAME, marks=NO_MARKS):
    return run(v, most, list(make), list(marks), bytes_of(text))


class RunTest(unittest.TestCase):
    def ends(self, number, text, steps=None, **handed):
        """The run ends with the number, after so many steps (a step a line if none is told)."""
        with self.subTest(text=text, **handed):
            steps = text.count("\n") if steps is None else steps
            self.assertEqual(ask(text, **handed), [0, steps, number])

    def fails(self, kind, line, text, **handed):
        with self.subTest(text=text, **handed):
            self.assertEqual(ask(text, **handed), [-9, kind, line])

    def comes_to(self, number, expression, before="", **handed):
        """E comes to the number (0 to 9,999), which is seen by adding it at rod 0."""
        handed = {"v": 0, "make": TEN * 8, **handed}
        self.ends(handed["v"] + number, f"{before}add {expression} at 0\n", **handed)


class AddAndTake(RunTest):
    def test_add(self):
        self.ends(1, "add 1 at 0\n")
        self.ends(10, "add 1 at 1\n")
        self.ends(3000, "add 3 at 3\n")
        self.ends(1234, "add 1 at 3\nadd 2 at 2\nadd 3 at 1\nadd 4 at 0\n")
        self.ends(1110, "add 2 at 0\n", v=1108)
        self.ends(1000, "add 1 at 0\n", v=999)
        self.ends(9999, "add 9999 at 0\n")
        self.ends(7, "add 0 at 3\n", v=7)

    def test_take(self):
        self.ends(4, "take 1 at 0\n", v=5)
        self.ends(999, "take 1 at 0\n", v=1000)
        self.ends(0, "take 9999 at 0\n", v=9999)
        self.ends(900, "take 1 at 2\n", v=1000)
        self.ends(995, "take 123 at 0\n", v=1118)
        self.ends(7, "take 0 at 3\n", v=7)

    def test_places_of_several_ratios(self):
        for rod, place in enumerate((1, 10, 20, 100, 300)):
            self.ends(place, f"add 1 at {rod}\n", make=MIXED)
            self.ends(3 * place, f"add 3 at {rod}\n", make=MIXED)
            self.ends(5999 - place, f"take 1 at {rod}\n", v=5999, make=MIXED)
            self.ends(5999 - 13 * place, f"take 13 at {rod}\n", v=5999, make=MIXED)

    def test_64_rods(self):
        self.ends(9999 * 10 ** 60, "add 9999 at 60\n", make=TEN * 64)
        self.ends(20 ** 64 - 20 ** 63, "add 19 at 63\n", make=TWENTY * 64)
        self.ends(20 ** 64 - 2, "take 1 at 0\n", v=20 ** 64 - 1, make=TWENTY * 64)
        self.ends(2 ** 63, "add 1 at 0\n", v=2 ** 63 - 1, make=TWO * 64)

    def test_the_sum_just_the_span_and_one_below_it(self):
        self.ends(9999, "add 9 at 0\n", v=9990)
        self.fails(2, 0, "add 10 at 0\n", v=9990)
        self.fails(2, 0, "add 11 at 0\n", v=9990)
        self.ends(9000, "add 9 at 3\n")
        self.fails(2, 0, "add 10 at 3\n")
        self.fails(2, 0, "add 9999 at 3\n")
        self.ends(9999, "add 9 at 3\n", v=999)
        self.fails(2, 0, "add 9 at 3\n", v=1000)
        self.ends(5999, "add 9 at 0\n", v=5990, make=MIXED)
        self.fails(2, 0, "add 10 at 0\n", v=5990, make=MIXED)
        self.ends(MIXED_SPAN - 300, "add 19 at 4\n", make=MIXED)
        self.fails(2, 0, "add 20 at 4\n", make=MIXED)
        self.fails(2, 1, "add 1 at 0\nadd 1 at 0\n", v=0, make=TWO)

    def test_a_difference_of_0_and_of_minus_1(self):
        self.ends(0, "take 1 at 0\n", v=1)
        self.fails(2, 0, "take 1 at 0\n", v=0)
        self.ends(0, "take 1234 at 0\n", v=1234)
        self.fails(2, 0, "take 1235 at 0\n", v=1234)
        self.ends(0, "take 1 at 3\n", v=1000)
        self.fails(2, 0, "take 1 at 3\n", v=999)
        self.ends(0, "take 2 at 3\n", v=200, make=MIXED)
        self.fails(2, 0, "take 2 at 3\n", v=199, make=MIXED)

    def test_a_rod_just_there_and_just_not_there(self):
        for word in ("add", "take"):
            self.ends(0, f"{word} 0 at 3\n")
            self.fails(1, 0, f"{word} 0 at 4\n")
            self.fails(1, 0, f"{word} 1 at 4\n", v=9999)
            self.fails(1, 0, f"{word} 1 at 9999\n")
            self.fails(1, 0, f"{word} 1 at 0-1\n", v=5)
            self.fails(1, 0, f"{word} 0 at 0-9999\n", v=5)
            self.ends(0, f"{word} 0 at 63\n", make=TEN * 64)
            self.fails(1, 0, f"{word} 0 at 64\n", make=TEN * 64)
            self.ends(0, f"{word} 0 at 0\n", make=TEN)
            self.fails(1, 0, f"{word} 0 at 1\n", make=TEN)

    def test_what_is_added_or_taken_away_below_0(self):
        for word in ("add", "take"):
            self.ends(5, f"{word} 1-1 at 0\n", v=5)
            self.fails(3, 0, f"{word} 0-1 at 0\n", v=5)
            self.fails(3, 0, f"{word} 1-9999 at 0\n", v=5)

    def test_it_is_asked_before_the_place_is_worked_out(self):
        for word in ("add", "take"):
            self.fails(3, 0, f"{word} 0-1 at 4\n")
            self.fails(3, 0, f"{word} 0-1 at [4]\n")
            self.fails(1, 0, f"{word} 0 at [4]\n")
            self.fails(3, 0, f"{word} 0 at 9999+1\n")

    def test_which_of_two_faults_comes_first(self):
        self.fails(1, 0, "add [4] at 9999+1\n")
        self.fails(3, 0, "add 9999+1 at [4]\n")
        self.fails(1, 0, "add 9999 at 4\n")
        self.fails(1, 0, "take 9999 at 4\n")
        self.fails(1, 0, "add [4]-9999-9999 at 0\n")
        self.fails(3, 0, "add 0-9999-9999+[4] at 0\n")


class Expressions(RunTest):
    def test_numbers_heads_and_marks(self):
        self.comes_to(0, "0")
        self.comes_to(9999, "9999")
        for place, head in enumerate("abcdefgh"):
            self.comes_to(0, head)
            self.comes_to(place + 70, head, before=f"set {head} {place + 70}\n")
        for place, mark in enumerate("ABCDEFGH"):
            self.comes_to(place * 9, mark, marks=[0, 9, 18, 27, 36, 45, 54, 63])

    def test_products_come_before_sums_and_differences(self):
        self.comes_to(7, "1+2*3")
        self.comes_to(5, "2*2+1")
        self.comes_to(4, "10-2*3")
        self.comes_to(26, "2*3+4*5")
        self.comes_to(14, "20-2*3")
        self.comes_to(123, "1+2*3*4*5+2")
        self.comes_to(1, "9-2*4*1")

    def test_from_the_left(self):
        self.comes_to(5, "10-3-2")
        self.comes_to(9, "10-3+2")
        self.comes_to(1, "9-5-2-1")
        self.comes_to(3, "1-2+4")
        self.comes_to(6, "10-2*3+2")
        self.comes_to(2, "10-2*3-2")
        self.comes_to(0, "0*100*101")

    def test_brackets_of_both_kinds(self):
        self.comes_to(9, "10-(3-2)")
        self.comes_to(9, "(1+2)*3")
        self.comes_to(21, "(1+2)*(3+4)")
        self.comes_to(4, "((10-(3)))-(1+(2))")
        self.comes_to(6, "[1]*2", v=30)
        self.comes_to(5, "[0]+[1]", v=32)
        self.comes_to(0, "[[0]]", v=9002)
        self.comes_to(9, "[[0]+1]", v=9002)
        self.comes_to(9, "[([0]-1)*2+1]", v=9002)
        self.comes_to(2, "[[[1]+1]]*1", v=210)

    def test_sixteen_brackets_open(self):
        self.comes_to(17, "(" * 16 + "1" + "+1)" * 16)
        self.comes_to(0, "[" * 16 + "5" + "]" * 16)
        self.comes_to(3, "[" * 16 + "3" + "]" * 16, v=3000)
        self.comes_to(1, "10-(" * 16 + "1" + ")" * 16)

    def test_a_rods_digit_of_a_rod_of_its_own_ratio(self):
        digits = (7, 1, 4, 2, 19)
        v = sum(digit * place for digit, place in zip(digits, (1, 10, 20, 100, 300)))
        for rod, digit in enumerate(digits):
            text = f"set a [{rod}]\nadd a at 5\n"
            make = MIXED + TWENTY * 4
            self.ends(v + digit * MIXED_SPAN, text, v=v, make=make)
        for rod in range(64):
            self.ends(20 ** 64 - 20, f"take [{rod}] at 0\n", v=20 ** 64 - 1, make=TWENTY * 64)

    def test_a_digit_is_that_of_the_number_as_it_is_now(self):
        self.ends(15, "add 5 at 0\nadd [0]*2 at 0\n")
        self.ends(1111, "add [0] at 1\nadd [1] at 2\nadd [2] at 3\n", v=1)
        self.ends(16, "add [0] at 0\nadd [0] at 0\n", v=4)

    def test_a_digit_of_a_rod_that_is_not_there(self):
        self.ends(9, "set a [3]\n", v=9)
        self.fails(1, 0, "set a [4]\n")
        self.fails(1, 0, "set a [9999]\n")
        self.fails(1, 0, "set a [0-1]\n")
        self.fails(1, 0, "set a [0-4]\n")
        self.fails(1, 0, "set a 1*[4]\n")
        self.fails(1, 0, "set a [[0]]\n", v=4)
        self.ends(3, "set a [[0]]\n", v=3)
        self.ends(5, "set a [63]\n", v=5, make=TWO * 64)
        self.fails(1, 0, "set a [64]\n", make=TWO * 64)
        self.fails(1, 1, "set a 1\nset b [a]\n", make=TEN)

    def test_what_is_worked_out_at_its_bounds(self):
        self.comes_to(9999, "9998+1")
        self.comes_to(9999, "9999*1")
        self.comes_to(9999, "99*101")
        self.comes_to(0, "0-9999+9999")
        self.comes_to(0, "0-9999*1+9999")
        self.comes_to(0, "(0-99*101)+99*101")
        for expression in ("9999+1", "100*100", "0-9999-1", "5000+5000", "9999*9999", "0-1-9999",
                           "(0-100)*100", "(0-100)*(0-100)", "10*1000"):
            self.fails(3, 0, f"add {expression} at 0\n", make=TEN * 8)
            self.fails(3, 0, f"if {expression}=0\nend\n")
            self.fails(3, 0, f"while 0<{expression}\nend\n")
            self.fails(3, 0, f"set a {expression}\n")

    def test_also_within(self):
        for expression in ("9999+1-1", "1-2-9999+5", "(9999+1)*0", "0*(9999+1)", "[9999+1]", "[0-9999-1]",
                           "100*100-1", "1+100*100-9000", "2*5000-1"):
            self.fails(3, 0, f"set a {expression}\n")
            self.fails(3, 0, f"add {expression} at 0\n")
            self.fails(3, 0, f"add 0 at {expression}\n")
        self.fails(3, 0, "set a 100*101*0\n")
        self.comes_to(9999, "9999-1+1")
        self.comes_to(9999, "9999*(2-1)")

    def test_from_the_left_until_the_first_fault(self):
        self.fails(3, 0, "set a 9999+1+[4]\n")
        self.fails(1, 0, "set a [4]+9999+1\n")
        self.fails(3, 0, "set a 9999*2+[4]\n")
        self.fails(1, 0, "set a [4]+9999*2\n")
        self.fails(3, 0, "set a 100*100*[4]\n")
        self.fails(1, 0, "set a [4]*100*100\n")
        self.fails(1, 0, "set a 9999+1*[4]\n")
        self.fails(1, 0, "set a 9999+1*([4])\n")
        self.fails(3, 0, "set a (9999+1)*[4]\n")
        self.fails(3, 0, "set a [9999+1]*[4]\n")
        self.fails(1, 0, "set a 9999+[4]+1\n")
        self.fails(1, 0, "set a [[4]+9999+1]\n")


class Heads(RunTest):
    def test_from_0_at_first(self):
        for head in "abcdefgh":
            self.ends(5, f"add {head} at 0\n", v=5)

    def test_each_head_by_itself(self):
        for head in "abcdefgh":
            others = [other for other in "abcdefgh" if other != head]
            self.ends(7, f"set {head} 7\nadd {'+'.join(others)} at 1\nadd {head} at 0\n")

    def test_a_head_is_set_from_itself(self):
        self.ends(3, "set a a+1\nset a a+1\nset a a+1\nadd a at 0\n")
        self.ends(8, "set a 2\nset a a*a\nset a a*2\nadd a at 0\n")
        self.ends(23, "set a 2\nset b 3\nset c a\nset a b\nadd a at 0\nadd c at 1\n")

    def test_99_and_100_and_below_0(self):
        for head in "ah":
            for number in ("0", "1", "98", "99", "9*11", "5-5"):
                self.ends(0, f"set {head} {number}\n")
            for number in ("100", "101", "9999", "0-1", "0-9999", "10*10", "5-6"):
                self.fails(3, 0, f"set {head} {number}\n")
        self.fails(3, 99, "set a a+1\n" * 100)
        self.ends(99, "set a a+1\n" * 99 + "add a at 0\n")

    def test_marks_stay(self):
        self.ends(1234, "set a A\nset a 9\nadd A at 3\nadd B at 2\nset b 9\nadd C at 1\nadd D at 0\n",
                  marks=[1, 2, 3, 4, 0, 0, 0, 0])
        self.ends(63, "set h 5\nadd H at 0\n", marks=[0] * 7 + [63])

    def test_marks_are_no_heads(self):
        self.ends(0, "add a+b+c+d+e+f+g+h at 0\n", marks=[1] * 8)
        self.ends(8, "set a 9\nset b 9\nadd A+B+C+D+E+F+G+H at 0\n", marks=[1] * 8)


class StopAndFail(RunTest):
    def test_stop(self):
        self.ends(0, "stop\n")
        self.ends(1, "add 1 at 0\nstop\nadd 1 at 0\n", steps=2)
        self.ends(0, "stop\nfail\n", steps=1)
        self.ends(0, "while 0=0\nif 0=0\nstop\nend\nend\nfail\n", steps=3)

    def test_behind_the_last_line(self):
        self.ends(4, "", v=4)
        self.ends(5, "add 1 at 0\n", v=4)
        self.ends(5, "if 0=0\nadd 1 at 0\nend\n", v=4)

    def test_fail(self):
        self.fails(4, 0, "fail\n")
        self.fails(4, 2, "set a 1\nadd 1 at 0\nfail\nfail\n")
        self.fails(4, 3, "while a<3\nset a a+1\nif a=3\nfail\nend\nend\n")


class Ifs(RunTest):
    def test_without_else(self):
        self.ends(11, "if 0=0\nadd 1 at 0\nend\nadd 1 at 1\n")
        self.ends(10, "if 0=1\nadd 1 at 0\nend\nadd 1 at 1\n", steps=2)
        self.ends(0, "if 0=1\nfail\nend\n", steps=1)
        self.ends(0, "if 0=0\nend\n", steps=2)
        self.ends(0, "if 0=1\nend\n", steps=1)

    def test_with_else(self):
        self.ends(101, "if 0=0\nadd 1 at 0\nelse\nadd 1 at 1\nend\nadd 1 at 2\n", steps=4)
        self.ends(110, "if 0=1\nadd 1 at 0\nelse\nadd 1 at 1\nend\nadd 1 at 2\n", steps=4)
        self.ends(0, "if 0=0\nelse\nfail\nend\n", steps=2)
        self.ends(0, "if 0=1\nfail\nelse\nend\n", steps=2)

    def test_an_else_come_to_from_before_is_a_step_and_the_end_is_not(self):
        text = "if 0=0\nadd 1 at 0\nelse\nadd 1 at 1\nend\n"
        self.assertEqual(ask(text, most=2), [-8])
        self.assertEqual(ask(text, most=3), [0, 3, 1])

    def test_an_ifs_end_is_a_step(self):
        text = "if 0=1\nelse\nadd 1 at 1\nend\n"
        self.assertEqual(ask(text, most=2), [-8])
        self.assertEqual(ask(text, most=3), [0, 3, 10])

    def test_one_within_the_other(self):
        text = ("if A=1\nif B=1\nadd 1 at 0\nelse\nadd 2 at 0\nend\nelse\n"
                "if B=1\nadd 3 at 0\nelse\nadd 4 at 0\nend\nend\nadd 1 at 1\n")
        for a, b, number, steps in ((1, 1, 11, 6), (1, 0, 12, 6), (0, 1, 13, 6), (0, 0, 14, 6)):
            self.ends(number, text, marks=[a, b] + [0] * 6, steps=steps)

    def test_sixteen_within_one_another(self):
        self.ends(1, "if 0=0\n" * 16 + "add 1 at 0\n" + "end\n" * 16)
        self.ends(0, "if 0=0\n" * 15 + "if 0=1\nadd 1 at 0\nend\n" + "end\n" * 15, steps=31)
        self.ends(2, "if 0=1\nelse\n" * 16 + "add 2 at 0\n" + "end\n" * 16, steps=33)

    def test_one_behind_the_other(self):
        self.ends(101, "if 0=0\nadd 1 at 0\nend\nif 0=1\nadd 1 at 1\nend\nif 0=0\nadd 1 at 2\nend\n", steps=7)


class Whiles(RunTest):
    def test_that_ends(self):
        self.ends(3, "while a<3\nset a a+1\nadd 1 at 0\nend\n", steps=13)
        self.ends(3, "while [0]<3\nadd 1 at 0\nend\n", steps=10)
        self.ends(0, "while [0]>0\ntake 1 at 0\nend\n", v=9, steps=28)
        self.ends(1003, "while a<3\nset a a+1\nadd 1 at 0\nend\nadd 1 at 3\n", steps=14)

    def test_that_is_never_so(self):
        self.ends(10, "while 0=1\nadd 1 at 0\nend\nadd 1 at 1\n", steps=2)
        self.ends(0, "while 0=1\nend\n", steps=1)
        self.ends(0, "while 0=1\nfail\nend\n", steps=1)

    def test_that_never_ends(self):
        for most in (0, 1, 2, 3, 1000, 1001, 100000):
            self.assertEqual(ask("while 0=0\nend\n", most=most), [-8])
            self.assertEqual(ask("while 0=0\nadd 1 at 0\ntake 1 at 0\nend\n", most=most), [-8])

    def test_until_a_fault_comes(self):
        self.fails(2, 1, "while 0=0\nadd 1 at 0\nend\n", v=9900)
        self.fails(3, 1, "while 0=0\nset a a+1\nend\n")
        self.fails(1, 0, "while [a]=0\nset a a+1\nend\n")

    def test_one_within_the_other(self):
        text = "while a<3\nset b 0\nwhile b<4\nadd 1 at 0\nset b b+1\nend\nset a a+1\nend\n"
        self.ends(12, text, steps=3 * (1 + 1 + 4 * 4 + 1 + 1 + 1) + 1)
        text = "while a<2\nset a a+1\nwhile b<0\nend\nif a=2\nadd a at 0\nelse\nadd a at 1\nend\nend\n"
        self.ends(12, text, steps=6 + 1 + 6 + 1 + 1)

    def test_sixteen_within_one_another(self):
        text = "while a<1\n" * 15 + "while a<1\nset a 1\nadd 1 at 0\n" + "end\n" * 16
        self.ends(1, text, steps=16 + 2 + 2 * 16)

    def test_while_in_an_if_and_if_in_a_while(self):
        text = "if A>0\nwhile a<A\nset a a+1\nadd a at 0\nend\nelse\nadd 1 at 3\nend\n"
        self.ends(10, text, marks=[4] + [0] * 7, steps=1 + 4 * 4 + 1 + 1)
        self.ends(1000, text, steps=3)
        text = "while a<6\nset a a+1\nif a<3\nadd 1 at 0\nelse\nif a=4\nadd 1 at 1\nend\nend\nend\n"
        self.ends(12, text, steps=2 * 6 + 3 * 6 + 8 + 1)


class Tests(RunTest):
    def test_each_sign(self):
        for sign, below, same, above in (("=", 0, 1, 0), ("<", 1, 0, 0), (">", 0, 0, 1),
                                         ("<=", 1, 1, 0), (">=", 0, 1, 1), ("<>", 1, 0, 1)):
            for number, so in ((4, below), (5, same), (6, above)):
                self.ends(so, f"if {number}{sign}5\nadd 1 at 0\nend\n", steps=1 + 2 * so)
                self.ends(so, f"while {number}{sign}5 and a=0\nadd 1 at 0\nset a 1\nend\n", steps=1 + 4 * so)

    def test_numbers_below_0(self):
        self.ends(1, "if 0-5<0-4\nadd 1 at 0\nend\n")
        self.ends(1, "if 0-9999<9999\nadd 1 at 0\nend\n")
        self.ends(1, "if 0-1=1-2\nadd 1 at 0\nend\n")
        self.ends(0, "if 0-1=1\nadd 1 at 0\nend\n", steps=1)

    def test_and(self):
        for first in (0, 1):
            for second in (0, 1):
                for third in (0, 1):
                    so = first * second * third
                    self.ends(so, f"if {first}=1 and {second}=1 and {third}=1\nadd 1 at 0\nend\n", steps=1 + 2 * so)

    def test_a_later_test_is_not_reached(self):
        for fault in ("[4]=0", "[0-1]=0", "9999+1=0", "0=9999+1", "0=[4]"):
            for word in ("if", "while"):
                self.ends(0, f"{word} 0=1 and {fault}\nend\n", steps=1)
                self.ends(0, f"{word} 0=0 and 0=1 and {fault}\nend\n", steps=1)
                self.fails(3 if "9999" in fault else 1, 0, f"{word} 0=0 and {fault}\nend\n")
                self.fails(3 if "9999" in fault else 1, 0, f"{word} {fault} and 0=1\nend\n")

    def test_both_numbers_of_a_test_are_worked_out_from_the_left(self):
        self.fails(1, 0, "if [4]=9999+1\nend\n")
        self.fails(3, 0, "if 9999+1=[4]\nend\n")

    def test_a_while_is_looked_at_each_time(self):
        self.fails(1, 0, "while a<9 and [a]=0\nset a a+1\nend\n")
        self.ends(0, "while a<4 and [a]=0\nset a a+1\nend\n", steps=13)


class Most(RunTest):
    def test_0_with_no_line_and_with_one(self):
        self.assertEqual(ask("", most=0, v=7), [0, 0, 7])
        for line in ("add 0 at 0\n", "take 0 at 0\n", "set a 0\n", "stop\n", "fail\n", "if 0=1\nend\n",
                     "while 0=1\nend\n"):
            self.assertEqual(ask(line, most=0), [-8])

    def test_just_the_steps_that_are_needed_and_one_fewer(self):
        for text, steps, number in (
                ("stop\n", 1, 0),
                ("add 1 at 0\n" * 9, 9, 9),
                ("add 1 at 0\nstop\nfail\n", 2, 1),
                ("while a<3\nset a a+1\nadd 1 at 0\nend\n", 13, 3),
                ("if 0=1\nend\n", 1, 0),
                ("if 0=0\nend\n", 2, 0),
                ("while 0=1\nend\n", 1, 0)):
            self.assertEqual(ask(text, most=steps), [0, steps, number])
            self.assertEqual(ask(text, most=steps - 1), [-8])
            for most in (steps + 1, steps + 2, 10 * steps, 65536, MOST - 1, MOST):
                self.assertEqual(ask(text, most=most), [0, steps, number])
            for most in range(steps):
                self.assertEqual(ask(text, most=most), [-8])

    def test_a_line_that_would_be_a_fault_when_it_is_one_step_too_many(self):
        for kind, line in ((4, "fail\n"), (1, "set a [4]\n"), (2, "take 1 at 0\n"), (3, "set a 100\n"),
                           (1, "if [4]=0\nend\n"), (3, "while 9999+1=0\nend\n")):
            self.assertEqual(ask(line, most=0), [-8])
            for most in (1, 2, MOST):
                self.assertEqual(ask(line, most=most), [-9, kind, 0])
            self.assertEqual(ask("set b 1\nset b 2\n" + line, most=2), [-8])
            self.assertEqual(ask("set b 1\nset b 2\n" + line, most=3), [-9, kind, 2])

    def test_a_stop_when_it_is_one_step_too_many(self):
        self.assertEqual(ask("set b 1\nstop\n", most=1), [-8])
        self.assertEqual(ask("set b 1\nstop\n", most=2), [0, 2, 0])

    def test_a_text_as_long_as_may_be(self):
        text = "if 0=0\nend\n" * 372
        self.ends(0, text)
        self.assertEqual(ask(text, most=743), [-8])
        self.comes_to(1, "1" + "+1-1" * 1000)
        self.ends(0, "if 0=0" + " and 0=0" * 500 + "\nend\n")


if __name__ == "__main__":
    unittest.main()
