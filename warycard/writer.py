"""Writes the parts of a module as bytes (point 507)."""

from warycard.instructions import NAMES
from warycard.layouts import KIND_PARTS, KINDS, operand_layout
from warycard.operands import OPERANDS
from warycard.words import SIGNS


class Writer:
    """The bytes of a module's parts, and the strings in the order in which they are first written."""

    def __init__(self):
        self._row = []
        self._places = {}

    def written(self):
        """Return the bytes."""
        return list(self._row)

    def strings(self):
        """Return the strings."""
        return list(self._places)

    def write(self, value, layout):
        """Write a value that has a layout."""
        match layout:
            case "number":
                self._row.extend(digits(value))
            case "parent":
                self._row.extend(digits(value + 1))
            case "word":
                self._row.extend(digits(2 * value if value >= 0 else -2 * value - 1))
            case "sign":
                self._row.extend(digits(SIGNS.index(value)))
            case "string":
                self._row.extend(digits(self._places.setdefault(value, len(self._places))))
            case "kind":
                place = KINDS.index(value[0])
                self._row.extend(digits(place))
                self._write_all(value[1:], KIND_PARTS[place])
            case "instruction":
                self._row.extend(digits(NAMES.index(value[0])))
                self._write_all(value[1:], [operand_layout(part) for part in OPERANDS[value[0]]])
            case ("list", inner):
                self._row.extend(digits(len(value)))
                for item in value:
                    self.write(item, inner)
            case _:
                self._write_all(value, layout[1:])

    def _write_all(self, row, layouts):
        for value, layout in zip(row, layouts):
            self.write(value, layout)


def digits(number):
    """Return the bytes of a number."""
    found = []
    while number > 127:
        found.append(128 + number % 128)
        number //= 128
    return found + [number]
