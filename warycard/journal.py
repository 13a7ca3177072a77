"""The journal, which has what must be put back of a transaction (points 1002 to 1005)."""

from warycard.errors import Fault
from warycard.limits import MOST_LOG, TRANSACTION

# The number of the entries, and two cells for each entry.
JOURNAL_CELLS = 81


class Journal:
    """The part of the cells that holds the old values of the cells that a transaction changed."""

    def __init__(self, cells, start):
        self._cells = cells
        self._start = start
        self._transaction = False

    def change(self, place, word):
        """Write a cell, and note what it had if a transaction is open."""
        if self._transaction:
            self._note(place)
        self._cells.write(place, word)

    def begin(self):
        """Open a transaction."""
        _ask(not self._transaction)
        self._transaction = True

    def commit(self):
        """Close the transaction, and keep what it changed."""
        _ask(self._transaction)
        self._forget()

    def abort(self):
        """Close the transaction, and put back what it changed."""
        _ask(self._transaction)
        self.put_back()

    def put_back(self):
        """Write the old values of all entries, and close the transaction if one is open."""
        for number in reversed(range(self._cells.read(self._start))):
            entry = self._entry(number)
            self._cells.write(self._cells.read(entry), self._cells.read(entry + 1))
        self._forget()

    def is_open(self):
        """Tell whether a transaction is open."""
        return self._transaction

    def _entry(self, number):
        return self._start + 1 + 2 * number

    def _note(self, place):
        many = self._cells.read(self._start)
        _ask(many < MOST_LOG)
        entry = self._entry(many)
        self._cells.write(entry, place)
        self._cells.write(entry + 1, self._cells.read(place))
        # The entry counts from this write on, so half of an entry is never put back.
        self._cells.write(self._start, many + 1)

    def _forget(self):
        if self._cells.read(self._start) != 0:
            self._cells.write(self._start, 0)
        self._transaction = False


def _ask(holds):
    if not holds:
        raise Fault(TRANSACTION)
