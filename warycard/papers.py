"""The form of papers (points 902 and 903)."""

from warycard.errors import BadPaper
from warycard.outlines import may_be_foreign
from warycard.shapes import begins, is_row, is_tuple
from warycard.texts import is_integer


class Papers:
    """Asks whether values are papers for a module."""

    def __init__(self, outline):
        self._outline = outline

    def ask(self, value):
        """Raise BadPaper if a value is no paper."""
        ask_paper(begins(value, "looks", 4) and all([isinstance(part, tuple) for part in value[1:]]))
        _, fields, calls, places = value
        ask_paper(all([self._is_field(item) for item in fields]) and _ascend(fields))
        ask_paper(all([self._is_call(item) for item in calls]) and _ascend([item[0] for item in calls]))
        ask_paper(all([self._is_place(item) for item in places]) and _ascend([item[:2] for item in places]))

    def _is_field(self, value):
        if not is_tuple(value, 2):
            return False
        k, field = value
        classes = self._outline.classes
        if not is_integer(k, 0, len(classes) - 1) or not is_integer(field, 0, len(classes[k][3]) - 1):
            return False
        return may_be_foreign(classes[k][3][field]) and self._outline.first_class(k, field) == k

    def _is_call(self, value):
        if not is_tuple(value, 3) or not self._is_method(value[0]) or not is_integer(value[2], 0, 1):
            return False
        number, slots, result = value
        many = len(self._outline.methods[number][2])
        if not self._are_slots(number, slots, many) or len(slots) > 0 and self._outline.is_led_to(number):
            return False
        return result == 0 or may_be_foreign(self._outline.methods[number][3])

    def _is_place(self, value):
        if not is_tuple(value, 4) or not self._is_method(value[0]):
            return False
        number, place, slots, stack = value
        _, _, _, _, _, most, code, _ = self._outline.methods[number]
        return (
            is_integer(place, 0, len(code) - 1)
            and self._are_slots(number, slots, len(self._outline.kinds[number]) - 1)
            and is_row_of_integers(stack, most - 1)
        )

    def _is_method(self, value):
        return is_integer(value, 0, len(self._outline.methods) - 1)

    def _are_slots(self, number, value, greatest):
        """Tell whether a value is a tuple of slots of a method whose values may be foreign."""
        kinds = self._outline.kinds[number]
        return is_row_of_integers(value, greatest) and all([may_be_foreign(kinds[slot]) for slot in value])


def ask_paper(holds):
    """Raise BadPaper, unless something holds."""
    if not holds:
        raise BadPaper()


def is_row_of_integers(value, greatest):
    """Tell whether a value is a tuple of integers from 0 on, in strictly ascending order."""
    if not isinstance(value, tuple) or not all([is_integer(item, 0, greatest) for item in value]):
        return False
    return _ascend(value)


def _ascend(row):
    """Tell whether the items of a row are in strictly ascending order."""
    return all([one < other for one, other in zip(row, row[1:])])
