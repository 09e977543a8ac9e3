"""A frame of which the number alone is kept."""

from abacusways.faults import NO_ROD, NO_ROOM, RunFault
from abacusways.makes import find_span

TAKE = 1


class NumberFrame:
    """The rods, and the number on them."""

    def __init__(self, rods, value):
        self.rods = rods
        self.value = value

    def look(self, number):
        """The digit of the rod that has the number."""
        check_there(self.rods, number)
        rod = self.rods[number]
        return self.value // rod.place % rod.ratio

    def change(self, op, amount, number):
        """Adds (op 0) or takes away (op 1) so much at the rod that has the number."""
        check_there(self.rods, number)
        change = amount * self.rods[number].place
        result = self.value - change if op == TAKE else self.value + change
        if not 0 <= result < find_span(self.rods):
            raise RunFault(NO_ROOM)
        self.value = result


def check_there(rods, number):
    """Looks whether there is a rod that has the number."""
    if not 0 <= number < len(rods):
        raise RunFault(NO_ROD)
