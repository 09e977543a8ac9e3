"""The call method: what texts are methods, how many lines they have, and where others fail."""

import unittest

from abacusways.methods import method

FAULT = -5
TOO_LONG = -6
RULE = 11

PLUS = "set a 0\nwhile a<B\nadd [A+a] at C+a\nset a a+1\nend\n"

DIVIDE = """set a 0
set b 0
while b<D
if [C+b]>0
set a 1
end
set b b+1
end
if a=0
fail
end
set a B
while a>0
set a a-1
set b 1
while b=1
set c B-a
if c<D
set c D
end
set d 0
while c>0 and d=0
set c c-1
set e 0
if c<B-a
set e [A+a+c]
end
set f 0
if c<D
set f [C+c]
end
if e>f
set d 1
end
if e<f
set d 2
end
end
if d=2
set b 0
else
set c 0
while c<D
if [C+c]>0
take [C+c] at A+a+c
end
set c c+1
end
add 1 at E+a
end
end
end
"""


def ask(text):
    """What method answers of a text, handed in byte by byte."""
    return method(list(text.encode("latin-1")))


class MethodTest(unittest.TestCase):
    def is_method(self, text):
        with self.subTest(text=text):
            self.assertEqual(ask(text), [text.count("\n")])

    def fails_at(self, place, text):
        with self.subTest(text=text):
            self.assertEqual(ask(text), [FAULT, RULE, place])

    def fails_behind(self, beginning, rest):
        self.fails_at(len(beginning), beginning + rest)

    def wants_more(self, text):
        self.fails_at(len(text), text)


class TextsThatAreMethods(MethodTest):
    def test_no_line_at_all(self):
        self.assertEqual(method([]), [0])

    def test_each_kind_of_line(self):
        for line in ("add 1 at 0", "take a at A", "set h 9", "stop", "fail"):
            self.is_method(line + "\n")
        self.is_method("if a=0\nend\n")
        self.is_method("if a=0\nelse\nend\n")
        self.is_method("while a=0\nend\n")

    def test_lines_are_counted(self):
        self.assertEqual(ask("stop\n" * 7), [7])
        self.assertEqual(ask(PLUS), [5])
        self.assertEqual(ask(DIVIDE), [52])

    def test_every_head_and_every_mark(self):
        for head in "abcdefgh":
            self.is_method(f"set {head} {head}\n")
        for mark in "ABCDEFGH":
            self.is_method(f"set a {mark}\n")

    def test_numbers(self):
        for number in ("0", "1", "9", "10", "999", "1000", "9999"):
            self.is_method(f"set a {number}\n")

    def test_signs_within_an_expression(self):
        self.is_method("set a 1+2-3*4*a-B+0\n")
        self.is_method("add 0-1 at 0-1\n")

    def test_brackets_of_both_kinds(self):
        self.is_method("set a [1]\n")
        self.is_method("set a (1)\n")
        self.is_method("add [(a+1)*[B-(2)]]+(3) at ([0])*2\n")
        self.is_method("if [a]<(b) and (c)>=[d]\nend\n")

    def test_each_test_sign(self):
        for sign in ("=", "<", ">", "<=", ">=", "<>"):
            self.is_method(f"if a{sign}1\nend\n")
            self.is_method(f"while a+1{sign}[A]*2\nend\n")

    def test_tests_joined_by_and(self):
        self.is_method("while a=1 and b<>2 and c<3 and [d]>=4\nend\n")

    def test_nested_blocks(self):
        self.is_method("if a=0\nif b=0\nelse\nend\nelse\nwhile c=0\nif d=0\nend\nend\nend\n")
        self.is_method("while a=0\nwhile b=0\nend\nif a=0\nstop\nelse\nfail\nend\nend\n")
        self.is_method("if a=0\nwhile b=0\nend\nelse\nend\n")

    def test_blocks_that_were_closed_do_not_count_as_open(self):
        self.is_method("if a=0\nend\n" * 40)
        self.is_method("while a=0\nend\n" * 40)

    def test_sixteen_blocks_open(self):
        self.is_method("if a=0\n" * 16 + "end\n" * 16)
        self.is_method("while a=0\n" * 16 + "end\n" * 16)
        self.is_method("if a=0\nwhile a=0\n" * 8 + "stop\n" + "end\n" * 16)
        self.is_method("if a=0\n" * 16 + "else\nend\n" * 16)
        self.is_method("if a=0\n" * 15 + "if b=0\nend\nwhile b=0\nend\n" + "end\n" * 15)

    def test_sixteen_brackets_open(self):
        self.is_method("set a " + "(" * 16 + "1" + ")" * 16 + "\n")
        self.is_method("set a " + "[(" * 8 + "1" + ")]" * 8 + "\n")
        self.is_method("set a " + "[" * 15 + "[1]+(2)" + "]" * 15 + "\n")

    def test_each_expression_has_its_own_sixteen_brackets(self):
        deep = "(" * 16 + "1" + ")" * 16
        self.is_method(f"add {deep} at {deep}\n")
        self.is_method(f"if {deep}={deep} and {deep}<{deep}\nend\n")
        self.is_method(f"set a {deep}+{deep}\n")


class TextsCutOff(MethodTest):
    def test_in_the_midst_of_a_word(self):
        for line in ("add 1 at 0", "take 1 at 0", "set a 0", "stop", "fail", "if a=0 and b<>0", "while a=0"):
            for size in range(1, len(line)):
                self.wants_more(line[:size])
                self.wants_more("stop\n" + line[:size])
        for word in ("else", "end"):
            for size in range(1, len(word)):
                self.wants_more("if a=0\n" + word[:size])

    def test_in_a_number(self):
        for number in ("0", "1", "12", "123", "1234"):
            self.wants_more(f"set a {number}")

    def test_in_a_test(self):
        for test in ("a", "a=", "a<", "a<=", "a>", "a>=", "a<>", "a=1 ", "a=1 and", "a=1 and ", "a=1 and b"):
            self.wants_more("if " + test)
            self.wants_more("while " + test)

    def test_within_brackets(self):
        for beginning in ("[", "(", "[1", "(1+", "[(1)", "([2]*"):
            self.wants_more("set a " + beginning)

    def test_in_front_of_a_line_feed(self):
        self.wants_more("stop")
        self.wants_more("add 1 at 0")
        self.wants_more("if a=0\nend")
        self.wants_more("if a=0\nelse")
        self.wants_more("stop\nset a 1")

    def test_block_without_its_end(self):
        self.wants_more("if a=0\n")
        self.wants_more("while a=0\n")
        self.wants_more("if a=0\nelse\n")
        self.wants_more("if a=0\nwhile a=0\nend\n")
        self.wants_more("if a=0\n" * 16)
        self.wants_more("if a=0\n" * 16 + "end\n" * 15)

    def test_every_beginning_of_a_method(self):
        for text in (PLUS, DIVIDE):
            for size in range(len(text)):
                begun = text[:size]
                expected = [begun.count("\n")] if is_closed(begun) else [FAULT, RULE, size]
                self.assertEqual(ask(begun), expected)


def is_closed(beginning):
    """Whether a method's beginning stops behind a line, with all that is begun having its end."""
    lines = beginning.split("\n")
    begun = sum(line.startswith(("if ", "while ")) for line in lines)
    return lines[-1] == "" and begun == lines.count("end")


class BlocksThatFail(MethodTest):
    def test_end_with_nothing_open(self):
        self.fails_at(0, "end\n")
        self.fails_behind("stop\n", "end\n")
        self.fails_behind("if a=0\nend\n", "end\n")
        self.fails_behind("while a=0\nend\n", "end\n")

    def test_else_with_nothing_open(self):
        self.fails_at(0, "else\n")
        self.fails_behind("if a=0\nend\n", "else\nend\n")

    def test_else_with_a_while_open(self):
        self.fails_behind("while a=0\ne", "lse\nend\n")
        self.fails_behind("if a=0\nwhile a=0\ne", "lse\nend\nend\n")
        self.fails_behind("if a=0\nelse\nwhile a=0\ne", "lse\nend\nend\n")

    def test_second_else(self):
        self.fails_behind("if a=0\nelse\ne", "lse\nend\n")
        self.fails_behind("if a=0\nelse\nif b=0\nelse\nend\ne", "lse\nend\n")
        self.fails_behind("if a=0\nelse\nwhile b=0\nend\ne", "lse\nend\n")

    def test_seventeenth_block(self):
        for opened in ("if a=0\n" * 16, "while a=0\n" * 16, "if a=0\nelse\n" * 16, "if a=0\nwhile a=0\n" * 8):
            self.fails_behind(opened, "if a=0\n" + "end\n" * 17)
            self.fails_behind(opened, "while a=0\n" + "end\n" * 17)
            self.fails_behind(opened + "stop\n", "if a=0\nend\n" + "end\n" * 16)
        self.fails_behind("while a=0\n" * 16 + "end\nif a=0\n", "if a=0\n")


class ExpressionsThatFail(MethodTest):
    def test_number_of_five_digits(self):
        self.fails_behind("set a 1234", "5\n")
        self.fails_behind("add 9999", "9 at 0\n")
        self.fails_behind("add 1 at 1000", "0\n")
        self.fails_behind("if a=[1234", "5]\nend\n")

    def test_number_with_a_first_zero(self):
        self.fails_behind("set a 0", "0\n")
        self.fails_behind("set a 0", "1\n")
        self.fails_behind("add (2*0", "7) at 0\n")

    def test_seventeenth_bracket(self):
        for opened in ("(" * 16, "[" * 16, "[(" * 8, "[1+" * 16):
            self.fails_behind("set a " + opened, "(1)")
            self.fails_behind("set a " + opened, "[1]")
        self.fails_behind("set a " + "(" * 15 + "(1)+(", "(1)")

    def test_brackets_that_do_not_match(self):
        self.fails_behind("set a [1", ")\n")
        self.fails_behind("set a (1", "]\n")
        self.fails_behind("set a 1", ")\n")
        self.fails_behind("set a 1", "]\n")
        self.fails_behind("set a (1)", ")\n")
        self.fails_behind("set a ([1", ")]\n")

    def test_bracket_left_open_at_the_expressions_end(self):
        self.fails_behind("set a (1", "\n")
        self.fails_behind("add [1", " at 0\n")
        self.fails_behind("if (a", "=1)\nend\n")
        self.fails_behind("if a=[1", " and b=1\nend\n")

    def test_nothing_where_a_factor_is_wanted(self):
        self.fails_behind("set a ", "\n")
        self.fails_behind("set a ", "-1\n")
        self.fails_behind("set a 1+", "\n")
        self.fails_behind("set a 1+", "+1\n")
        self.fails_behind("set a [", "]\n")
        self.fails_behind("set a (", ")\n")
        self.fails_behind("add ", " at 0\n")
        self.fails_behind("if ", "=1\nend\n")
        self.fails_behind("if a=", "\nend\n")
        self.fails_behind("if a=1 and ", "\nend\n")

    def test_factor_behind_a_factor(self):
        self.fails_behind("set a 1", "a\n")
        self.fails_behind("set a a", "1\n")
        self.fails_behind("set a A", "b\n")
        self.fails_behind("set a 2", "(1)\n")
        self.fails_behind("set a [1]", "[2]\n")

    def test_letters_that_are_no_head_and_no_mark(self):
        self.fails_behind("set a ", "i\n")
        self.fails_behind("set a ", "I\n")
        self.fails_behind("set ", "i 0\n")
        self.fails_behind("set ", "A 0\n")
        self.fails_behind("set ", "1 0\n")


class LinesThatFail(MethodTest):
    def test_line_that_begins_with_nothing_known(self):
        for line in ("\n", " stop\n", "Stop\n", "x\n", "1\n", "halt\n"):
            self.fails_at(0, line)
            self.fails_behind("stop\n", line)

    def test_words_that_go_on_otherwise(self):
        self.fails_behind("a", "t 1\n")
        self.fails_behind("s", "ubtract\n")
        self.fails_behind("st", "art\n")
        self.fails_behind("se", "n\n")
        self.fails_behind("if a=0\ne", "xit\n")
        self.fails_behind("if a=0\nen", "t\n")
        self.fails_behind("if a=0\nel", "if\n")
        self.fails_behind("add 1 a", "nd 2\n")
        self.fails_behind("if a=0 a", "t 1\n")

    def test_what_a_line_has_too_much(self):
        self.fails_behind("stop", " \n")
        self.fails_behind("fail", "s\n")
        self.fails_behind("add 1 at 0", " at 0\n")
        self.fails_behind("add 1 at 0", " and 0\n")
        self.fails_behind("set a 1", " at 0\n")
        self.fails_behind("if a=0", "\r\nend\n")
        self.fails_behind("if a=0 ", "\nend\n")
        self.fails_behind("if a=0\nend", " \n")
        self.fails_behind("if a=0\nelse", " if b=0\nend\n")

    def test_what_a_line_has_too_little(self):
        self.fails_behind("add", "\n")
        self.fails_behind("add 1", "\n")
        self.fails_behind("add 1 at", "\n")
        self.fails_behind("add 1 at ", "\n")
        self.fails_behind("set a", "\n")
        self.fails_behind("set a", "1\n")
        self.fails_behind("if a", "\nend\n")
        self.fails_behind("if a", " and b=1\nend\n")

    def test_blanks_that_stand_nowhere(self):
        self.fails_behind("add ", " 1 at 0\n")
        self.fails_behind("add 1 ", " at 0\n")
        self.fails_behind("set a 1", " + 1\n")
        self.fails_behind("if a", " = 1\nend\n")
        self.fails_behind("set a 1+", " 1\n")

    def test_comparison_signs_that_fail(self):
        self.fails_behind("if a=", "=1\nend\n")
        self.fails_behind("if a=", "<1\nend\n")
        self.fails_behind("if a=", ">1\nend\n")
        self.fails_behind("if a>", "<1\nend\n")
        self.fails_behind("if a>", ">1\nend\n")
        self.fails_behind("if a<", "<1\nend\n")
        self.fails_behind("if a<=", "=1\nend\n")
        self.fails_behind("if a<>", "=1\nend\n")
        self.fails_behind("if a=1", "=1\nend\n")
        self.fails_behind("if a", "!=1\nend\n")
        self.fails_behind("set a 1", "=1\n")

    def test_bytes_that_stand_nowhere(self):
        good = list(b"stop\nif a=[b]+12 and c<>3\nend\n")
        nowhere = [byte for byte in range(256) if chr(byte) not in "adtkesifopnwhlbcgABCDEFGH0123456789[]()+-*=<> \n"]
        for byte in nowhere:
            for place in range(len(good) + 1):
                self.assertEqual(method(good[:place] + [byte] + good[place:]), [FAULT, RULE, place])


class Sizes(MethodTest):
    def test_method_of_4096_bytes(self):
        text = "set a 10\nadd 1 at 11\n" + "stop\n" * 815
        self.assertEqual(len(text), 4096)
        self.assertEqual(ask(text), [817])

    def test_faults_in_texts_of_4096_bytes(self):
        self.wants_more("stop\n" * 819 + "s")
        self.fails_behind("stop\n" * 819, "x")
        for beginning in ("if a=0", "stop\nset a 1234"):
            self.fails_behind(beginning, "0" * (4096 - len(beginning)))

    def test_one_byte_more(self):
        text = "add 1 at 11\n" + "stop\n" * 817
        self.assertEqual(len(text), 4097)
        self.assertEqual(ask(text), [TOO_LONG])

    def test_too_long_is_asked_before_the_fault(self):
        self.assertEqual(ask("x" * 4096), [FAULT, RULE, 0])
        self.assertEqual(ask("x" * 4097), [TOO_LONG])
        self.assertEqual(ask("x" * 5000), [TOO_LONG])

    def test_many_terms_and_many_tests(self):
        self.is_method("set a 1" + "+1" * 2000 + "\n")
        self.is_method("if a=1" + " and a=1" * 500 + "\nend\n")


class WhatIsHandedIn(unittest.TestCase):
    def test_stays_as_it_was(self):
        for text in (PLUS, DIVIDE, "", "if a=0\n", "add 1 at", "x" * 4097):
            handed = list(text.encode())
            method(handed)
            self.assertEqual(handed, list(text.encode()))

    def test_nothing_is_kept_from_call_to_call(self):
        texts = [PLUS, "if a=0\n", "end\n", "set a (((1", PLUS, "", "else\n", "x" * 5000, DIVIDE]
        first = [ask(text) for text in texts]
        self.assertEqual(first, [[5], [-5, 11, 7], [-5, 11, 0], [-5, 11, 10], [5], [0], [-5, 11, 0], [-6], [52]])
        self.assertEqual([ask(text) for text in reversed(texts)], first[::-1])

    def test_answer_may_be_changed_by_who_gets_it(self):
        text = list(b"stop\n")
        method(text).append(99)
        self.assertEqual(method(text), [1])

    def test_the_argument_has_its_name(self):
        self.assertEqual(method(text=list(b"stop\n")), [1])

    def test_answer_is_a_list_of_whole_numbers(self):
        for text in (PLUS, "", "end\n", "x" * 4097):
            answer = ask(text)
            self.assertIs(type(answer), list)
            self.assertEqual([type(number) for number in answer], [int] * len(answer))


if __name__ == "__main__":
    unittest.main()
