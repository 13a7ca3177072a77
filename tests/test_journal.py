"""Points 1002 to 1005: the journal."""

import unittest

from warycard.cells import Cells
from warycard.errors import Fault, PowerCut
from warycard.journal import JOURNAL_CELLS, Journal
from warycard.limits import MOST_LOG, TRANSACTION

START, COUNT = 5, 120
# The cells that are changed lie on both sides of the journal.
LOW, HIGH = 2, 100


class Writes(Cells):
    """Cells that note what is written."""

    def __init__(self, count):
        Cells.__init__(self, count)
        self.noted = []

    def write(self, place, word):
        Cells.write(self, place, word)
        self.noted.append((place, word))

    def taken(self):
        found, self.noted = self.noted, []
        return found


class JournalTest(unittest.TestCase):
    def setUp(self):
        self.cells = Writes(COUNT)
        self.journal = Journal(self.cells, START)

    def row(self):
        return [self.cells.read(place) for place in range(COUNT)]

    def fault(self, call, *args):
        with self.assertRaises(Fault) as caught:
            call(*args)
        self.assertEqual(caught.exception.code, TRANSACTION)
        self.assertEqual(self.cells.taken(), [])

    def test_size(self):
        self.assertEqual(JOURNAL_CELLS, 1 + 2 * MOST_LOG)
        self.assertIs(type(JOURNAL_CELLS), int)

    def test_without_a_transaction(self):
        self.assertIs(self.journal.is_open(), False)
        self.assertIsNone(self.journal.change(HIGH, 7))
        self.assertEqual(self.cells.taken(), [(HIGH, 7)])
        self.fault(self.journal.commit)
        self.fault(self.journal.abort)
        self.assertIsNone(self.journal.put_back())
        self.assertEqual(self.cells.taken(), [])
        self.assertIs(self.journal.is_open(), False)

    def test_the_cells_after_each_step(self):
        self.journal.change(HIGH, -3)
        self.cells.taken()
        self.assertIsNone(self.journal.begin())
        self.assertIs(self.journal.is_open(), True)
        self.assertEqual(self.cells.taken(), [])
        self.journal.change(HIGH, 8)
        self.assertEqual(self.cells.taken(), [(START + 1, HIGH), (START + 2, -3), (START, 1), (HIGH, 8)])
        self.journal.change(LOW, 4)
        self.assertEqual(self.cells.taken(), [(START + 3, LOW), (START + 4, 0), (START, 2), (LOW, 4)])
        # A place that is changed twice is noted twice, also if it keeps its value.
        self.journal.change(HIGH, 8)
        self.assertEqual(self.cells.taken(), [(START + 5, HIGH), (START + 6, 8), (START, 3), (HIGH, 8)])
        self.fault(self.journal.begin)
        self.assertIs(self.journal.is_open(), True)

    def test_commit(self):
        self.journal.begin()
        self.journal.change(HIGH, 1)
        self.cells.taken()
        self.assertIsNone(self.journal.commit())
        self.assertEqual(self.cells.taken(), [(START, 0)])
        self.assertIs(self.journal.is_open(), False)
        self.fault(self.journal.commit)
        self.journal.put_back()
        self.assertEqual(self.cells.read(HIGH), 1)

    def test_abort_and_put_back(self):
        for close in (self.journal.abort, self.journal.put_back):
            self.journal.change(HIGH, 9)
            self.journal.change(LOW, 0)
            self.journal.begin()
            self.journal.change(HIGH, 1)
            self.journal.change(LOW, 2)
            self.journal.change(HIGH, 3)
            self.cells.taken()
            self.assertIsNone(close())
            self.assertEqual(self.cells.taken(), [(HIGH, 1), (LOW, 0), (HIGH, 9), (START, 0)])
            self.assertIs(self.journal.is_open(), False)
            self.fault(self.journal.abort)

    def test_nothing_to_write(self):
        for close in (self.journal.commit, self.journal.abort, self.journal.put_back):
            self.journal.begin()
            close()
            self.assertEqual(self.cells.taken(), [])
            self.assertIs(self.journal.is_open(), False)

    def test_entries(self):
        self.journal.begin()
        for number in range(MOST_LOG):
            self.journal.change(HIGH, number)
        self.cells.taken()
        self.fault(self.journal.change, HIGH, 77)
        self.fault(self.journal.change, LOW, 77)
        self.assertIs(self.journal.is_open(), True)
        self.assertEqual(self.cells.read(START), MOST_LOG)
        self.assertEqual(self.cells.read(START + JOURNAL_CELLS - 1), MOST_LOG - 2)
        self.assertEqual(self.cells.read(START + JOURNAL_CELLS), 0)
        self.assertEqual((self.cells.read(HIGH), self.cells.read(LOW)), (MOST_LOG - 1, 0))
        self.journal.abort()
        self.assertEqual(self.cells.read(HIGH), 0)
        self.journal.begin()
        for number in range(MOST_LOG):
            self.journal.change(HIGH, number)
        self.journal.commit()
        self.assertEqual(self.cells.read(HIGH), MOST_LOG - 1)

    def test_other_journals(self):
        self.journal.begin()
        self.journal.change(HIGH, 1)
        other = Journal(self.cells, START)
        self.assertIs(other.is_open(), False)
        self.cells.taken()
        other.put_back()
        self.assertEqual(self.cells.taken(), [(HIGH, 0), (START, 0)])

    def steps(self):
        """Return rows of steps, each a method of the journal and its arguments."""
        change = [("change", HIGH, 1), ("change", LOW, 2), ("change", HIGH, 3), ("change", HIGH + 1, 0)]
        for many in (0, 1, 4):
            for end in ("commit", "abort", "put_back", None):
                yield [("change", HIGH, 9), ("begin",)] + change[:many] + ([(end,)] if end else []) + [("change", LOW, 7)] * (end is not None)
        yield [("begin",)] + change + [("commit",), ("begin",)] + change[::-1] + [("abort",), ("change", LOW, 1)]
        yield [("begin",)] + [("change", LOW, number) for number in range(40)] + [("commit",)]

    def test_cut_behind_each_write(self):
        for steps in self.steps():
            writes, done = 0, False
            while not done:
                done = self.cut_once(steps, writes)
                writes += 1

    def cut_once(self, steps, writes):
        """Let the power fail, then put back with the power failing again and again; tell whether it failed at first."""
        cells = Writes(COUNT)
        journal = Journal(cells, START)
        cells.cut(writes)
        # What stands in the cells that the transactions change: now, and when the open one was opened.
        now, kept, done = {}, None, True
        for word, *rest in steps:
            before = dict(now)
            if word == "begin":
                kept = dict(now)
            elif word == "change":
                now[rest[0]] = rest[1]
            elif word != "commit":
                now = kept
            try:
                getattr(journal, word)(*rest)
            except PowerCut:
                done = False
                # Only the write of 0 ends a transaction that is committed, and a change is the last write of its own.
                now = before
                break
            if word in ("commit", "abort", "put_back"):
                kept = None
        right = now if kept is None else kept
        if done and kept is None:
            self.assertEqual({place: cells.read(place) for place in right}, right)
        failed = 0
        while True:
            cells.restore()
            cells.cut(failed % 4)
            again = Journal(cells, START)
            try:
                again.put_back()
                break
            except PowerCut:
                failed += 1
                self.assertLess(failed, 500)
            if failed > 60:
                cells.restore()
                again = Journal(cells, START)
                again.put_back()
                break
        cells.restore()
        self.assertFalse(again.is_open())
        found = {place: cells.read(place) for place in (LOW, HIGH, HIGH + 1)}
        self.assertEqual(found, {place: right.get(place, 0) for place in found}, (steps, writes))
        self.assertEqual(cells.read(START), 0)
        return done


if __name__ == "__main__":
    unittest.main()
