"""The refusals of the calls, and what goes wrong in a run."""

MAKE_COUNT = 1
ROD_NUMBERS = 2
ROD_WORTH = 3
ROD_GAP = 4
NO_STANDING = 5
HAND_COUNT = 6
NO_STROKE = 7
NO_RULE = 9
NO_METHOD = 11

NO_ROD = 1
NO_ROOM = 2
OUT_OF_BOUNDS = 3
FAILED = 4
NOT_WORKED = 5


class Refusal(ValueError):
    """What a call answers when it refuses: the number, and what else is told."""

    def __init__(self, numbers):
        ValueError.__init__(self, numbers)
        self.numbers = numbers


class LongText(Refusal):
    """The text has too many bytes."""

    def __init__(self):
        Refusal.__init__(self, [-6])


class Fault(Refusal):
    """Which of the document's rules is broken, and at what place."""

    def __init__(self, rule, place):
        Refusal.__init__(self, [-5, rule, place])


class NotAllowed(Refusal):
    """A number that the call doesn't allow, with nothing else to tell of it."""

    def __init__(self):
        Refusal.__init__(self, [-1])


class LargeValue(Refusal):
    """The number has no room on the make."""

    def __init__(self):
        Refusal.__init__(self, [-4])


class NotInForm(Refusal):
    """The standing isn't in form."""

    def __init__(self):
        Refusal.__init__(self, [-3])


class FaultyLine(Refusal):
    """A run's fault: its kind, and the line where it comes."""

    def __init__(self, kind, line):
        Refusal.__init__(self, [-9, kind, line])


class LongRun(Refusal):
    """The run is too long."""

    def __init__(self):
        Refusal.__init__(self, [-8])


class RunFault(ValueError):
    """The kind of a run's fault, from where the line isn't known."""

    def __init__(self, kind):
        ValueError.__init__(self, kind)
        self.kind = kind
