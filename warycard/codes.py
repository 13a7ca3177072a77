"""The form of the code of a method (points 504 and 505)."""

from warycard.limits import MOST_CODE, MOST_HANDLERS
from warycard.operands import OPERANDS
from warycard.shapes import first, is_tuple
from warycard.texts import is_integer, is_text
from warycard.words import SIGNS, is_word


class Code:
    """What the instructions of a method may name."""

    def __init__(self, known, classes, slots, places):
        self._known = known
        # The numbers of the fields and of the rows of each class.
        self._classes = classes
        self._slots = slots
        self._places = places

    def is_instruction(self, value):
        """Tell whether a value is an instruction."""
        parts = OPERANDS.get(first(value))
        if parts is None or len(value) != 1 + len(parts):
            return False
        # An operand may only be looked at if those ahead of it are right.
        for place, part in enumerate(parts, start=1):
            if not self._is_operand(value, place, part):
                return False
        return True

    def _is_operand(self, instruction, place, part):
        value = instruction[place]
        match part:
            case "slot":
                return is_integer(value, 0, self._slots - 1)
            case "place":
                return is_integer(value, 0, self._places - 1)
            case "class":
                return self._known.is_class_number(value)
            case "field":
                return is_integer(value, 0, self._classes[instruction[1]][0] - 1)
            case "row":
                return is_integer(value, 0, self._classes[instruction[1]][1] - 1)
            case "head":
                # The package and the face ahead of it are looked at here, too.
                return is_integer(value, 0, self._known.most_heads(instruction[1], instruction[2]) - 1)
            case "object":
                return self._known.is_object(value)
            case "seen":
                return self._known.is_face(value)
        return _is_leaf(value, part)


def _is_leaf(value, part):
    match part:
        case "word":
            return is_word(value)
        case "text":
            return is_text(value)
        case "sign":
            return isinstance(value, str) and value in SIGNS
    # The package and the face of a "callf" are looked at together with the number behind them.
    return True


def is_code(value):
    """Tell whether a value is a tuple with as many items as a code may have."""
    return isinstance(value, tuple) and 1 <= len(value) <= MOST_CODE


def are_handlers(value, places):
    """Tell whether a value is a tuple of handlers for a code."""
    if not isinstance(value, tuple) or len(value) > MOST_HANDLERS:
        return False
    return all([_is_handler(item, places) for item in value])


def _is_handler(value, places):
    if not is_tuple(value, 3):
        return False
    begin, end, at = value
    return is_integer(end, 1, places) and is_integer(begin, 0, end - 1) and is_integer(at, 0, places - 1)
