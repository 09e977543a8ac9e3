"""What a method has to work out.

E is kept as a list of its numbers, letters and signs in the order in which they come to be worked
out, a sign behind what it is for. "[" is the sign that looks at a rod. So E is gone through by a
loop, however many brackets are open in it.
"""

from abacusways.faults import OUT_OF_BOUNDS, RunFault

HEADS = "abcdefgh"
MARKS = "ABCDEFGH"
MOST_WORKED_OUT = 9999


def put_in_order(parts):
    """E in the order in which it is worked out, its parts being told as they stand in the text."""
    ordered = []
    waiting = []
    for part in parts:
        if part == "(" or part == "[":
            waiting.append(part)
        elif part == ")" or part == "]":
            take_signs(waiting, ["*", "+", "-"], ordered)
            if waiting.pop() == "[":
                ordered.append("[")
        elif part == "*":
            take_signs(waiting, ["*"], ordered)
            waiting.append(part)
        elif part == "+" or part == "-":
            take_signs(waiting, ["*", "+", "-"], ordered)
            waiting.append(part)
        else:
            ordered.append(part)
    take_signs(waiting, ["*", "+", "-"], ordered)
    return ordered


def take_signs(waiting, signs, ordered):
    """Puts into the order what waits last, as long as it is one of these signs."""
    while waiting and waiting[-1] in signs:
        ordered.append(waiting.pop())


def work_out(ordered, letters, frame):
    """What E comes to, the letters standing for numbers and the frame being looked at."""
    found = []
    for part in ordered:
        if isinstance(part, int):
            found.append(part)
        elif part in letters:
            found.append(letters[part])
        elif part == "[":
            found.append(frame.look(found.pop()))
        else:
            right = found.pop()
            found.append(calculate(found.pop(), part, right))
    return found.pop()


def calculate(left, sign, right):
    """The sum, difference or product, within its bounds."""
    if sign == "+":
        result = left + right
    elif sign == "-":
        result = left - right
    else:
        result = left * right
    if abs(result) > MOST_WORKED_OUT:
        raise RunFault(OUT_OF_BOUNDS)
    return result


def is_so(left, sign, right):
    """Whether a test's two numbers are as its sign says."""
    if sign == "=":
        return left == right
    if sign == "<":
        return left < right
    if sign == ">":
        return left > right
    if sign == "<=":
        return left <= right
    if sign == ">=":
        return left >= right
    return left != right


def all_so(tests, letters, frame):
    """Whether all tests are so; those behind one that isn't are not worked out."""
    for left, sign, right in tests:
        number = work_out(left, letters, frame)
        if not is_so(number, sign, work_out(right, letters, frame)):
            return False
    return True
