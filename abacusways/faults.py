"""The fault of something handed in."""


class Fault(ValueError):
    """Which of the document's rules is broken, and at what place."""

    def __init__(self, rule, place):
        ValueError.__init__(self, rule, place)
        self.rule = rule
        self.place = place
