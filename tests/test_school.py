"""The call school: the texts of the school's own methods, held against ../shared/DOC.md."""

import pathlib
import unittest

from abacusways.methods import method, school

DOCUMENT = pathlib.Path(__file__).resolve().parents[2] / "shared" / "DOC.md"
FENCE = b"~~~\n"

# Told apart from the document, so that one that is read wrongly is found out.
NAMES = [b"plus", b"times", b"divide", b"root"]
LINES = [5, 9, 52, 48]
BYTES = [49, 89, 410, 413]
BEGINNINGS = [b"set a 0\n", b"set a 0\n", b"set a 0\nset b 0\nwhile b<D\n", b"set h 0\nwhile h+h<B\n"]

NONE = [-1]
MOST_K = 4294967295
NO_METHODS = [4, 5, 6, 7, 8, 9, 10, 63, 64, 100, 255, 256, 257, 259, 1000, 65535, 65536, 65539, 10 ** 9,
              2 ** 31 - 1, 2 ** 31, 2 ** 31 + 3, 2 ** 32 - 4, 2 ** 32 - 3, 2 ** 32 - 2, MOST_K]


def told_methods():
    """The document's four methods: of each its name and its text."""
    part = DOCUMENT.read_bytes().partition(b"## The school's own\n")[2]
    told = part.split(FENCE)[1]
    chunks = [chunk.rstrip(b"\n") + b"\n" for chunk in told.split(b"\n\n")]
    return [(name, text) for name, line_feed, text in (chunk.partition(b"\n") for chunk in chunks)]


class TheDocument(unittest.TestCase):
    def test_the_four_methods_are_found_in_it(self):
        told = told_methods()
        self.assertEqual([name for name, text in told], NAMES)
        self.assertEqual([text.count(b"\n") for name, text in told], LINES)
        self.assertEqual([len(text) for name, text in told], BYTES)


class TheTexts(unittest.TestCase):
    def test_each_is_as_the_document_tells_it(self):
        for k, (name, text) in enumerate(told_methods()):
            with self.subTest(name=name):
                self.assertEqual(school(k), [0] + list(text))

    def test_plus_and_times_written_out(self):
        plus = b"set a 0\nwhile a<B\nadd [A+a] at C+a\nset a a+1\nend\n"
        times = (b"set a 0\nwhile a<B\nset b 0\nwhile b<D\nadd [A+a]*[C+b] at E+a+b\n"
                 b"set b b+1\nend\nset a a+1\nend\n")
        self.assertEqual(school(0), [0] + list(plus))
        self.assertEqual(school(1), [0] + list(times))

    def test_each_is_a_method_of_so_many_lines(self):
        for k, lines in enumerate(LINES):
            self.assertEqual(method(school(k)[1:]), [lines])

    def test_how_many_bytes_are_answered(self):
        self.assertEqual([len(school(k)) for k in range(4)], [1 + size for size in BYTES])

    def test_no_name_and_no_blank_line_is_part_of_a_text(self):
        for k, beginning in enumerate(BEGINNINGS):
            text = bytes(school(k)[1:])
            self.assertTrue(text.startswith(beginning))
            self.assertNotIn(b"\n\n", text)

    def test_the_last_line_has_its_line_feed_too(self):
        for k in range(4):
            text = school(k)[1:]
            self.assertEqual(bytes(text[-5:]), b"\nend\n")
            self.assertEqual(method(text[:-1]), [-5, 11, len(text) - 1])


class NoMethod(unittest.TestCase):
    def test_there_is_none_from_4_on(self):
        for k in NO_METHODS:
            with self.subTest(k=k):
                self.assertEqual(school(k), NONE)


class WhatIsGivenBack(unittest.TestCase):
    def test_a_changed_list_changes_no_later_answer(self):
        first = [list(school(k)) for k in range(5)]
        for k in range(5):
            for change in (lambda given: given.append(99), lambda given: given.clear(),
                           lambda given: given.reverse(), lambda given: given.insert(0, 7),
                           lambda given: given.__setitem__(len(given) - 1, 65)):
                change(school(k))
                self.assertEqual([school(other) for other in range(5)], first)

    def test_each_call_gives_a_list_of_its_own(self):
        for k in (0, 1, 2, 3, 4, MOST_K):
            one, other = school(k), school(k)
            self.assertIsNot(one, other)
            one.append(1)
            self.assertNotEqual(one, other)

    def test_nothing_is_kept_from_call_to_call(self):
        order = [3, 4, 0, 3, 2, MOST_K, 1, 0, 2]
        first = [school(k) for k in order]
        method(list(b"end\n"))
        self.assertEqual([school(k) for k in reversed(order)], first[::-1])

    def test_answer_is_a_list_of_whole_numbers(self):
        for k in (0, 1, 2, 3, 4, MOST_K):
            answer = school(k)
            self.assertIs(type(answer), list)
            self.assertEqual([type(number) for number in answer], [int] * len(answer))

    def test_the_argument_has_its_name(self):
        self.assertEqual(school(k=1), school(1))


if __name__ == "__main__":
    unittest.main()
