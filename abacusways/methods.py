"""The calls that others make."""

from abacusways.faults import Fault
from abacusways.grammar import count_lines

MOST_BYTES = 4096


def method(text):
    """How many lines the text has, if it is a method; else the refusal."""
    if len(text) > MOST_BYTES:
        return [-6]
    try:
        return [count_lines(text)]
    except Fault as fault:
        return [-5, fault.rule, fault.place]
