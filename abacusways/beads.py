"""A frame of beads, on which a hand works by a book."""

from abacusways.books import CARRY
from abacusways.faults import NO_ROOM, NOT_WORKED, RunFault
from abacusways.frames import check_there
from abacusways.hands import AWAY
from abacusways.makes import find_span
from abacusways.standings import DECKS, shown_digit

MOST_SUM_STEPS = 65536


class BeadFrame:
    """The rods and how their beads stand; the hand, at which rod it is, and what it has done; the book."""

    def __init__(self, rods, standing, hand, at, book):
        self.rods = rods
        self.standing = list(standing)
        self.hand = hand
        self.at = at
        self.acts = 0
        self.cost = 0
        self.book = book

    def look(self, number):
        """The digit of the rod that has the number."""
        check_there(self.rods, number)
        digit = shown_digit(self.standing, self.rods, number)
        if digit is None:
            raise RunFault(NOT_WORKED)
        return digit

    def change(self, op, amount, number):
        """Adds (op 0) or takes away (op 1) so much at the rod that has the number, by the book."""
        check_there(self.rods, number)
        change = amount * self.rods[number].place
        if change >= find_span(self.rods):
            raise RunFault(NO_ROOM)
        steps = 0
        for place in range(len(self.rods) - 1, -1, -1):
            digit = change // self.rods[place].place % self.rods[place].ratio
            if digit > 0:
                steps = self.change_digit(op, digit, place, steps)

    def change_digit(self, op, digit, number, steps):
        """Does the rule for that digit on that rod, with all that its carries bring along.

        Told and given back is how many steps of the whole sum are done.
        """
        waiting = self.begin_rule(op, digit, number)
        while waiting:
            if steps == MOST_SUM_STEPS:
                raise RunFault(NOT_WORKED)
            steps += 1
            told = waiting.pop()
            if told[1] == CARRY:
                waiting.extend(self.begin_carry(op, told[0] + 1))
            else:
                self.do_act(told[0], told[1])
        return steps

    def begin_carry(self, op, number):
        """What begin_rule gives for a carry to that rod."""
        if number == len(self.rods):
            raise RunFault(NO_ROOM)
        return self.begin_rule(op, 1, number)

    def begin_rule(self, op, digit, number):
        """The steps of the rule for what the rod now shows, each with its rod, the first one last."""
        steps = self.book.get((op, digit, self.look(number)), [])
        return [(number, step) for step in reversed(steps)]

    def do_act(self, number, step):
        """Does an act on the rod: the stroke, and how many beads of its decks."""
        if step[0] >= len(self.hand.strokes):
            raise RunFault(NOT_WORKED)
        stroke = self.hand.strokes[step[0]]
        self.push(number, stroke.first, step[1])
        if stroke.is_double:
            self.push(number, stroke.second, step[2])
        elif step[2] > 0:
            raise RunFault(NOT_WORKED)
        self.acts += 1
        self.cost += stroke.cost + self.hand.moving * abs(number - self.at)
        self.at = number

    def push(self, number, told, count):
        """Pushes so many beads of the rod, the deck, the direction and the most being told."""
        place = DECKS * number + told[0]
        beads = self.rods[number].beads[told[0]]
        pushed = self.standing[place]
        movable = pushed if told[1] == AWAY else beads - pushed
        if not 1 <= count <= min(told[2], movable):
            raise RunFault(NOT_WORKED)
        self.standing[place] = pushed - count if told[1] == AWAY else pushed + count
