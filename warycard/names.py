"""The names of the applets in the cells (point 1011)."""

from warycard.limits import MOST_APPLETS, MOST_TEXT

# For each applet, whether it is there, the number of its object, the length of its name, and the characters.
NAMES_CELLS = 152
# All printable characters other than the double quote; the percent sign is not printable.
CHARACTERS = (
    " !#$&'()*+,-./0123456789:;<=>?@ABCDEFGHIJKLMNOPQRSTUVWXYZ"
    "[\\]^_`abcdefghijklmnopqrstuvwxyz{|}~"
)


class Names:
    """The part of the cells that holds the names and the objects of the applets."""

    def __init__(self, cells, start):
        self._cells = cells
        self._start = start

    def put(self, owner, number, name):
        """Put the name and the object of an applet."""
        first = self._first(owner)
        row = [number, len(name)] + [CHARACTERS.index(letter) for letter in name]
        for place, word in enumerate(row, start=first + 1):
            self._cells.write(place, word)
        # The applet is there from this write on.
        self._cells.write(first, 1)

    def remove(self, owner):
        """Remove the name of an applet."""
        self._cells.write(self._first(owner), 0)

    def rows(self):
        """Return the owners, the objects and the names of all applets."""
        found = []
        for owner in range(1, MOST_APPLETS + 1):
            first = self._first(owner)
            if self._cells.read(first) == 1:
                found.append((owner, self._cells.read(first + 1), self._name_at(first + 2)))
        return found

    def _first(self, owner):
        """Return the place of the first cell of an owner."""
        return self._start + (owner - 1) * (3 + MOST_TEXT)

    def _name_at(self, place):
        """Return the name whose length stands at a place."""
        length = self._cells.read(place)
        return "".join([CHARACTERS[self._cells.read(place + step)] for step in range(1, 1 + length)])
