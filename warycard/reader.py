"""Reads the parts of a module from bytes (points 507 and 508)."""

from warycard.errors import BadPackage
from warycard.instructions import NAMES
from warycard.layouts import KIND_PARTS, KINDS, operand_layout
from warycard.names import CHARACTERS
from warycard.operands import OPERANDS
from warycard.words import SIGNS

# No number in a module, and no number of its strings, has more digits.
MOST_DIGITS = 3


class Reader:
    """Bytes that are read from the left.

    What is read may be no module, or have other bytes than these: that is asked later.
    """

    def __init__(self, row):
        self._row = row
        self._place = 0
        self._strings = []
        self._codes = {ord(letter): letter for letter in CHARACTERS}

    def read_strings(self):
        """Read the strings of a module."""
        for _ in range(self._number()):
            self._strings.append(self._string())

    def read(self, layout):
        """Read a value that has a layout."""
        match layout:
            case "number":
                return self._number()
            case "parent":
                return self._number() - 1
            case "word":
                double = self._number()
                return double // 2 if double & 1 == 0 else -(double + 1) // 2
            case "sign":
                return self._item(SIGNS)
            case "string":
                return self._item(self._strings)
            case "kind":
                word = self._item(KINDS)
                return (word,) + self._all(KIND_PARTS[KINDS.index(word)])
            case "instruction":
                word = self._item(NAMES)
                return (word,) + self._all([operand_layout(part) for part in OPERANDS[word]])
            case ("list", inner):
                return self._list(inner)
        return self._all(layout[1:])

    def _list(self, layout):
        return tuple([self.read(layout) for _ in range(self._number())])

    def _all(self, layouts):
        return tuple([self.read(layout) for layout in layouts])

    def _item(self, row):
        place = self._number()
        if place >= len(row):
            raise BadPackage()
        return row[place]

    def _number(self):
        number = 0
        for place in range(MOST_DIGITS):
            digit = self._byte()
            number += (digit & 127) << (7 * place)
            if digit < 128:
                return number
        raise BadPackage()

    def _string(self):
        return "".join([self._letter() for _ in range(self._number())])

    def _letter(self):
        code = self._byte()
        if code not in self._codes:
            raise BadPackage()
        return self._codes[code]

    def _byte(self):
        if self._place == len(self._row):
            raise BadPackage()
        self._place += 1
        return self._row[self._place - 1]
