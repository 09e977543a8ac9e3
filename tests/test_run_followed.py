"""The call run against the document's runs followed in a second way, over many methods."""

import collections
import itertools
import math
import random
import unittest

from abacusways.methods import method, run, school
from helper import MOST, TEN, Chance, bytes_of, follow_run, make_of, ratios_of, rod_of

SMALL_MAKE = make_of(rod_of(3), rod_of(10), rod_of(2))


class Followed(unittest.TestCase):
    def agrees(self, v, most, make, marks, text):
        answer = run(v, most, make, marks, bytes_of(text))
        expected = follow_run(v, most, make, marks, text)
        if answer != expected:
            self.fail(f"{(v, most, make, marks, text)}: {answer}, not {expected}")
        return answer

    def goes_on_the_same_with_more(self, answer, v, most, make, marks, text):
        """Promise 3: a run that ends within so many steps ends so within more."""
        if answer != [-8]:
            for more in (most + 1, 2 * most + 3, MOST):
                self.assertEqual(run(v, more, make, marks, bytes_of(text)), answer)
        if answer[0] == 0:
            self.assertEqual(run(v, answer[1], make, marks, bytes_of(text)), answer)
            if answer[1] > 0:
                self.assertEqual(run(v, answer[1] - 1, make, marks, bytes_of(text)), [-8])

    def test_methods_by_chance(self):
        chance = random.Random(18)
        seen = collections.Counter()
        for count in range(4000):
            rods = chance.randrange(1, 7)
            make = make_of(*[rod_of(chance.randrange(2, 21)) for rod in range(rods)])
            text = Chance(chance, rods).text(8)
            if len(text) <= 4096:
                span = math.prod(ratios_of(make))
                v = chance.choice((0, span - 1, chance.randrange(span)))
                marks = [chance.randrange(chance.choice((4, 64))) for mark in range(8)]
                most = chance.choice((chance.randrange(40), 600))
                answer = self.agrees(v, most, make, marks, text)
                self.goes_on_the_same_with_more(answer, v, most, make, marks, text)
                seen[tuple(answer[:2]) if answer[0] == -9 else answer[0]] += 1
        for outcome in (0, -8, (-9, 1), (-9, 2), (-9, 3), (-9, 4)):
            self.assertGreater(seen[outcome], 50)

    def test_all_short_texts_of_blocks(self):
        lines = ("if A=1\n", "while [0]<2\n", "else\n", "end\n", "stop\n", "add 1 at 0\n")
        for size in range(6):
            for chosen in itertools.product(lines, repeat=size):
                text = "".join(chosen)
                if method(bytes_of(text)) == [size]:
                    for mark in (0, 1):
                        self.agrees(1, 12, SMALL_MAKE, [mark] * 8, text)

    def test_all_expressions_of_few_parts(self):
        for parts in itertools.product(("2", "7", "b", "[1]"), "+-*", ("3", "B", "[b]"), "+-*", ("5", "[2]")):
            expression = "".join(parts)
            ways = [expression, f"({parts[0]}{parts[1]}{parts[2]}){parts[3]}{parts[4]}",
                    f"{parts[0]}{parts[1]}({parts[2]}{parts[3]}{parts[4]})", f"[{expression}]"]
            for way in ways:
                self.agrees(59, 9, SMALL_MAKE, [11] * 8, f"set b 1\nset a {way}\nadd a at 0\n")

    def test_the_schools_own_on_any_numbers_and_marks(self):
        chance = random.Random(4)
        for count in range(300):
            text = bytes(school(count % 4)[1:]).decode()
            make = make_of(*[rod_of(chance.randrange(2, 21)) for rod in range(6)])
            v = chance.randrange(math.prod(ratios_of(make)))
            marks = [chance.randrange(5) for mark in range(8)]
            self.agrees(v, 400, make, marks, text)

    def test_large_numbers(self):
        chance = random.Random(64)
        for count in range(300):
            make = TEN * 64 if count % 2 else make_of(*[rod_of(chance.randrange(2, 21)) for rod in range(64)])
            span = math.prod(ratios_of(make))
            v = chance.choice((span - 1, span // 2, chance.randrange(span), 0))
            lines = [f"{chance.choice(('add', 'take'))} {chance.randrange(10000)} at {chance.randrange(64)}\n"
                     f"set a [{chance.randrange(64)}]\nadd a at a\n" for line in range(5)]
            self.agrees(v, 100, make, [0] * 8, "".join(lines))


if __name__ == "__main__":
    unittest.main()
