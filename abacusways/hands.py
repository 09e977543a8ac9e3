"""The hands that push beads, and their strokes."""

from abacusways.faults import HAND_COUNT, NO_STROKE, Fault

STROKE_SIZE = 7
MOST_STROKES = 32
MOST_MOVING = 255
MOST_DECK = 2
TO_BEAM = 1
AWAY = 2
MOST_PUSHED = 15
MOST_COST = 255


class Stroke:
    """What a stroke pushes (deck, direction, most), what of a second deck, if any, and its cost."""

    def __init__(self, told):
        self.first = told[0:3]
        self.second = told[3:6]
        self.cost = told[6]
        self.is_double = self.second != [0, 0, 0]


class Hand:
    """What moving over a rod costs, and the strokes."""

    def __init__(self, moving, strokes):
        self.moving = moving
        self.strokes = strokes


def read_hand(hand):
    """The hand; a Fault if there is no such hand."""
    if len(hand) % STROKE_SIZE != 1 or hand[0] > MOST_MOVING or len(hand) // STROKE_SIZE > MOST_STROKES:
        raise Fault(HAND_COUNT, 0)
    strokes = []
    for place in range(1, len(hand), STROKE_SIZE):
        stroke = Stroke(hand[place:place + STROKE_SIZE])
        if not can_be(stroke):
            raise Fault(NO_STROKE, len(strokes))
        strokes.append(stroke)
    return Hand(hand[0], strokes)


def can_be(stroke):
    """Whether the stroke's numbers are such as a stroke may have."""
    if stroke.is_double and (not is_push(stroke.second) or stroke.first[0] == stroke.second[0]):
        return False
    return is_push(stroke.first) and 1 <= stroke.cost <= MOST_COST


def is_push(push):
    """Whether there may be such a deck, direction and most."""
    return push[0] <= MOST_DECK and (push[1] == TO_BEAM or push[1] == AWAY) and 1 <= push[2] <= MOST_PUSHED
