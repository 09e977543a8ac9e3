"""Runs of a method, on whatever frame answers to look and change."""

from abacusways.expressions import HEADS, MARKS, all_so, work_out
from abacusways.faults import FAILED, OUT_OF_BOUNDS, FaultyLine, LongRun, RunFault

MOST_HEAD = 99
OPS = {"add": 0, "take": 1}


class Run:
    """The lines of a method, what its letters stand for, and the frame that it is run on."""

    def __init__(self, lines, marks, frame):
        self.lines = lines
        self.goals = find_goals(lines)
        self.letters = first_letters(marks)
        self.frame = frame

    def go_through(self, most):
        """Goes on to the end, in so many steps at most, and gives back in how many."""
        line = 0
        steps = 0
        while line < len(self.lines):
            if steps == most:
                raise LongRun()
            steps += 1
            try:
                line = self.do_line(line)
            except RunFault as fault:
                raise FaultyLine(fault.kind, line) from None
        return steps

    def do_line(self, line):
        """Does the line, and gives back the one where it goes on."""
        word = self.lines[line][0]
        parts = self.lines[line][1]
        if word in OPS:
            self.change_frame(OPS[word], parts[0], parts[1])
        elif word == "set":
            self.set_head(parts[0], parts[1])
        elif word == "stop":
            return len(self.lines)
        elif word == "fail":
            raise RunFault(FAILED)
        elif word == "else" or word == "end" or not all_so(parts, self.letters, self.frame):
            return self.goals[line]
        return line + 1

    def change_frame(self, op, amount, rod):
        """Adds (op 0) or takes away (op 1) what the one E comes to at the rod of the other."""
        number = work_out(amount, self.letters, self.frame)
        if number < 0:
            raise RunFault(OUT_OF_BOUNDS)
        self.frame.change(op, number, work_out(rod, self.letters, self.frame))

    def set_head(self, head, ordered):
        """Sets the head to what E comes to."""
        number = work_out(ordered, self.letters, self.frame)
        if not 0 <= number <= MOST_HEAD:
            raise RunFault(OUT_OF_BOUNDS)
        self.letters[head] = number


def first_letters(marks):
    """What the letters stand for at first."""
    letters = {}
    for head, mark, number in zip(HEADS, MARKS, marks):
        letters[head] = 0
        letters[mark] = number
    return letters


def find_goals(lines):
    """Of each line where it goes on if that isn't at the next line.

    An if and a while go on there if they aren't so, an else and an end in any case.
    """
    goals = []
    begun = []
    for line, told in enumerate(lines):
        word = told[0]
        goals.append(line + 1)
        if word == "else" or word == "end":
            goals[begun[-1]] = line + 1
            if lines[begun[-1]][0] == "while":
                goals[line] = begun[-1]
            begun.pop()
        if word == "if" or word == "while" or word == "else":
            begun.append(line)
    return goals
