"""The objects in the cells (points 1006 to 1010)."""

from warycard.errors import Fault
from warycard.limits import MOST_BUFFER, MOST_CELLS, MOST_OBJECTS, ROOM

# The kinds of objects other than those of classes.
BYTES = -1
TEMP = -2
# The number of the buffer, which is greater by 1 than MOST_OBJECTS.
BUFFER = 61
# The cell that tells the half, and two halves, each with a table and a room.
HEAP_CELLS = 921
# The cells of an object ahead of its values: its kind, its owner and its size.
FRONT = 3


class Heap:
    """The part of the cells that holds objects, and the values that do not last without power."""

    def __init__(self, cells, journal, start):
        self._cells = cells
        self._journal = journal
        self._start = start
        self._buffer = [0] * MOST_BUFFER
        # The values of objects of the kind TEMP, by their numbers; those of all others are 0.
        self._temps = {}

    def make(self, kind, owner, size):
        """Make an object, and return its number."""
        there = self.numbers()
        cells, many = self.used()
        if many >= MOST_OBJECTS or cells + FRONT + size > MOST_CELLS:
            raise Fault(ROOM)
        half = self._half()
        place = max([0] + [self._place_of(number) + self._length(number) for number in there])
        row = [kind, owner, size] + [0] * _lasting(kind, size)
        self._write_row(_room(half) + place, row)
        free = [number for number in range(1, MOST_OBJECTS + 1) if number not in there]
        self._write_row(half + free[0] - 1, [place + 1])
        if kind == TEMP:
            # The number may have been that of another such object.
            self._temps[free[0]] = [0] * size
        return free[0]

    def kind(self, number):
        """Return the kind of an object."""
        return TEMP if number == BUFFER else self._front(number, 0)

    def owner(self, number):
        """Return the owner of an object."""
        return 0 if number == BUFFER else self._front(number, 1)

    def size(self, number):
        """Return the number of the values of an object."""
        return MOST_BUFFER if number == BUFFER else self._front(number, 2)

    def read(self, number, place):
        """Return a value of an object."""
        if self.kind(number) == TEMP:
            return self._temp(number)[place]
        return self._cells.read(self._value_cell(number, place))

    def write(self, number, place, word):
        """Change a value of an object."""
        if self.kind(number) == TEMP:
            row = self._temp(number)
            row[place] = word
        else:
            self._journal.change(self._value_cell(number, place), word)

    def fill(self, data):
        """Fill the buffer."""
        self._buffer = list(data) + [0] * (MOST_BUFFER - len(data))

    def numbers(self):
        """Return the numbers of all objects."""
        half = self._half()
        return [number for number in range(1, MOST_OBJECTS + 1) if self._cells.read(half + number - 1) != 0]

    def used(self):
        """Return the numbers of cells and of objects."""
        sizes = [FRONT + self.size(number) for number in self.numbers()]
        return sum(sizes), len(sizes)

    def reached(self, roots, places):
        """Return the numbers of the objects that can be reached from some."""
        found = []
        known = {0: True, BUFFER: True}
        waiting = list(roots)
        while len(waiting) > 0:
            later = []
            for number in waiting:
                if number not in known:
                    known[number] = True
                    found.append(number)
                    later.extend(self._referred(number, places))
            waiting = later
        return found

    def collect(self, roots, places):
        """Keep the objects alone that can be reached from some."""
        half = self._half()
        other = self._other_half()
        table = [0] * MOST_OBJECTS
        place = 0
        for number in sorted(self.reached(roots, places)):
            length = self._length(number)
            front = _room(half) + self._place_of(number)
            self._write_row(_room(other) + place, [self._cells.read(front + step) for step in range(length)])
            table[number - 1] = place + 1
            place += length
        self._write_row(other, table)
        # The objects count where they stand now from this write on.
        self._cells.write(self._start, 1 - self._cells.read(self._start))

    def _half(self):
        """Return the place of the half that is in use; its table stands there."""
        return self._half_with(self._cells.read(self._start))

    def _other_half(self):
        return self._half_with(1 - self._cells.read(self._start))

    def _half_with(self, number):
        return self._start + 1 + number * (MOST_OBJECTS + MOST_CELLS)

    def _place_of(self, number):
        """Return the place of an object in the room."""
        return self._cells.read(self._half() + number - 1) - 1

    def _front(self, number, step):
        return self._cells.read(_room(self._half()) + self._place_of(number) + step)

    def _length(self, number):
        """Return the number of the cells that an object has in the room."""
        return FRONT + _lasting(self.kind(number), self.size(number))

    def _value_cell(self, number, place):
        return _room(self._half()) + self._place_of(number) + FRONT + place

    def _temp(self, number):
        """Return the values of the buffer or of an object of the kind TEMP."""
        if number == BUFFER:
            return self._buffer
        return self._temps.setdefault(number, [0] * self.size(number))

    def _referred(self, number, places):
        """Return the numbers to which an object refers, in the order of its values."""
        kind = self.kind(number)
        return [self.read(number, place) for place in sorted(places(kind))] if kind >= 0 else []

    def _write_row(self, start, row):
        for step, word in enumerate(row):
            self._cells.write(start + step, word)


def _room(half):
    """Return the place of the room of a half, which is behind its table."""
    return half + MOST_OBJECTS


def _lasting(kind, size):
    """Return how many of the values of an object stand in the cells."""
    return 0 if kind == TEMP else size
