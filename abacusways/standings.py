"""The standings of a frame."""

from abacusways.faults import NO_STANDING, Fault

DECKS = 3


def check_standing(standing, rods):
    """Looks whether it is a standing of these rods."""
    if len(standing) != DECKS * len(rods):
        raise Fault(NO_STANDING, len(standing))
    for place, pushed in enumerate(standing):
        if pushed > rods[place // DECKS].beads[place % DECKS]:
            raise Fault(NO_STANDING, place)


def shown_digit(standing, rods, number):
    """The digit that the rod of that number shows in form; None if it shows none."""
    way = tuple(standing[DECKS * number:DECKS * (number + 1)])
    return rods[number].digits.get(way)


def is_in_form(standing, rods):
    """Whether each rod shows a digit in form."""
    return None not in [shown_digit(standing, rods, number) for number in range(len(rods))]
