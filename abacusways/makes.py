"""The makes of a frame: their rods, and the form in which each rod shows a digit."""

from abacusways.faults import MAKE_COUNT, ROD_GAP, ROD_NUMBERS, ROD_WORTH, Fault

ROD_SIZE = 7
MOST_RODS = 64
LEAST_RATIO = 2
MOST_RATIO = 20
MOST_BEADS = 15
MOST_WORTH = 63
MOST_ROD_WORTH = 255


class Rod:
    """A rod's ratio, its place, the beads and their worth deck by deck, and of each form its digit."""

    def __init__(self, told, place):
        self.ratio = told[0]
        self.place = place
        self.beads = told[1::2]
        self.worths = told[2::2]
        self.digits = {}
        forms = find_forms(self.ratio, self.beads, self.worths)
        for digit in forms:
            self.digits[forms[digit]] = digit


def read_make(make):
    """The rods, from rod 0 on; a Fault if there is no such make."""
    if len(make) % ROD_SIZE != 0 or not 1 <= len(make) // ROD_SIZE <= MOST_RODS:
        raise Fault(MAKE_COUNT, 0)
    rods = []
    place = 1
    for number in range(len(make) // ROD_SIZE):
        told = make[ROD_SIZE * number:ROD_SIZE * (number + 1)]
        check_rod(told, number)
        rod = Rod(told, place)
        if len(rod.digits) < rod.ratio:
            raise Fault(ROD_GAP, number)
        rods.append(rod)
        place *= rod.ratio
    return rods


def check_rod(told, number):
    """Looks whether the seven numbers of the rod are such as a rod may have."""
    beads = told[1::2]
    worths = told[2::2]
    if not LEAST_RATIO <= told[0] <= MOST_RATIO:
        raise Fault(ROD_NUMBERS, number)
    if beads[0] == 0 or (beads[1] == 0 and beads[2] > 0):
        raise Fault(ROD_NUMBERS, number)
    for deck_beads, worth in zip(beads, worths):
        if deck_beads > MOST_BEADS or worth > MOST_WORTH or (deck_beads == 0) != (worth == 0):
            raise Fault(ROD_NUMBERS, number)
    if sum([deck_beads * worth for deck_beads, worth in zip(beads, worths)]) > MOST_ROD_WORTH:
        raise Fault(ROD_WORTH, number)


def find_forms(ratio, beads, worths):
    """Of each digit that can be pushed its form: how many beads of each deck.

    Deck by deck the best way for each count is enough: a worse way with the same count stays worse
    whatever is pushed of the decks behind.
    """
    forms = {0: ()}
    for deck_beads, worth in zip(beads, worths):
        longer = {}
        for count in forms:
            for pushed in range(deck_beads + 1):
                total = count + pushed * worth
                way = forms[count] + (pushed,)
                if total < ratio and (total not in longer or is_better(way, longer[total])):
                    longer[total] = way
        forms = longer
    return forms


def is_better(way, other):
    """Whether it has fewer beads than the other, or as many but more of the first decks."""
    return sum(way) < sum(other) or (sum(way) == sum(other) and way > other)


def find_span(rods):
    """The product of all ratios."""
    return rods[-1].place * rods[-1].ratio
