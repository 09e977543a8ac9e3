"""The books of rules by which sums are worked on beads."""

from abacusways.faults import NO_RULE, Fault

HEAD_SIZE = 3
STEP_SIZE = 3
MOST_STEPS = 10
MOST_OP = 1
MOST_DIGIT = 19
MOST_STROKE = 31
MOST_PUSHED = 15
CARRY = (0, 0, 0)


def read_book(book):
    """Of each op, d and x that has a rule its steps; a Fault if there is no such book."""
    rules = {}
    for number, row in enumerate(book):
        if not is_row(row) or (row[0], row[1], row[2]) in rules:
            raise Fault(NO_RULE, number)
        rules[(row[0], row[1], row[2])] = read_steps(row)
    return rules


def read_steps(row):
    """The steps of a row: stroke, n and k of each."""
    return [tuple(row[place:place + STEP_SIZE]) for place in range(HEAD_SIZE, len(row), STEP_SIZE)]


def is_row(row):
    """Whether the row may stand in a book by itself."""
    if len(row) < HEAD_SIZE or (len(row) - HEAD_SIZE) % STEP_SIZE != 0:
        return False
    if row[0] > MOST_OP or row[1] > MOST_DIGIT or row[2] > MOST_DIGIT:
        return False
    steps = read_steps(row)
    return len(steps) <= MOST_STEPS and all([is_step(step) for step in steps])


def is_step(step):
    """Whether it is a carry, or an act that some hand could do."""
    return step == CARRY or (step[0] <= MOST_STROKE and 1 <= step[1] <= MOST_PUSHED and step[2] <= MOST_PUSHED)
