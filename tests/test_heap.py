"""Points 1006 to 1010: the heap."""

import unittest
from random import Random

from warycard.cells import Cells
from warycard.errors import Fault, PowerCut
from warycard.heap import BUFFER, BYTES, HEAP_CELLS, TEMP, Heap
from warycard.journal import JOURNAL_CELLS, Journal
from warycard.limits import MOST_BUFFER, MOST_CELLS, MOST_OBJECTS, ROOM

# The journal stands behind the heap here.
START = 4
JOURNAL = START + HEAP_CELLS
COUNT = JOURNAL + JOURNAL_CELLS + 2
TABLES = (START + 1, START + 1 + MOST_OBJECTS + MOST_CELLS)
ROOMS = tuple(place + MOST_OBJECTS for place in TABLES)


def nowhere(kind):
    return ()


def pairs(kind):
    """Objects of class 1 refer at their second and fourth value, those of class 2 at their first."""
    return {0: [], 1: (1, 3), 2: [0]}[kind]


class HeapCase(unittest.TestCase):
    def setUp(self):
        self.cells = Cells(COUNT)
        self.start()

    def start(self):
        """Begin anew with what stands in the cells."""
        self.journal = Journal(self.cells, JOURNAL)
        self.journal.put_back()
        self.heap = Heap(self.cells, self.journal, START)

    def row(self):
        return [self.cells.read(place) for place in range(COUNT)]

    def front(self, number):
        return self.heap.kind(number), self.heap.owner(number), self.heap.size(number)

    def values(self, number):
        return [self.heap.read(number, place) for place in range(self.heap.size(number))]

    def all(self):
        return {number: self.front(number) + (self.values(number),) for number in self.heap.numbers()}

    def no_room(self, kind, size):
        before = self.row()
        with self.assertRaises(Fault) as caught:
            self.heap.make(kind, 1, size)
        self.assertEqual(caught.exception.code, ROOM)
        self.assertEqual(self.row(), before)


class MakeTest(HeapCase):
    def test_numbers_of_the_interface(self):
        self.assertEqual((BYTES, TEMP, BUFFER, HEAP_CELLS), (-1, -2, MOST_OBJECTS + 1, 1 + 2 * (MOST_OBJECTS + MOST_CELLS)))

    def test_a_new_heap_writes_nothing(self):
        before = self.row()
        self.cells.cut(0)
        Heap(self.cells, self.journal, START)
        self.assertEqual(self.row(), before)
        self.assertEqual((self.heap.numbers(), self.heap.used()), ([], (0, 0)))

    def test_the_cells(self):
        right = self.row()
        for kind, owner, size, row in ((7, 3, 2, [7, 3, 2, 0, 0]), (BYTES, 8, 3, [-1, 8, 3, 0, 0, 0]), (TEMP, 1, 64, [-2, 1, 64]),
                                       (BYTES, 0, 0, [-1, 0, 0]), (0, 2, 0, [0, 2, 0]), (BYTES, 2, 64, [-1, 2, 64] + [0] * 64)):
            number = len(self.heap.numbers()) + 1
            place = sum(len(one) for one in self.all_rows())
            self.assertEqual(self.heap.make(kind, owner, size), number)
            right[ROOMS[0] + place:ROOMS[0] + place + len(row)] = row
            right[TABLES[0] + number - 1] = place + 1
            self.assertEqual(self.row(), right)
            self.assertEqual(self.front(number), (kind, owner, size))
            self.assertEqual(self.values(number), [0] * size)
        self.assertEqual(self.heap.numbers(), [1, 2, 3, 4, 5, 6])
        self.assertEqual(self.heap.used(), (18 + 2 + 3 + 64 + 64, 6))

    def all_rows(self):
        """Return the cells of all objects."""
        found = []
        for number in self.heap.numbers():
            kind, _, size = self.front(number)
            found.append([0] * (3 + (0 if kind == TEMP else size)))
        return found

    def test_old_contents_of_cells(self):
        """A zero is written for each value, whatever stood there."""
        self.heap.make(BYTES, 1, 9)
        for place in range(9):
            self.heap.write(1, place, 200)
        self.heap.make(BYTES, 1, 9)
        for _ in range(2):
            self.heap.collect([], nowhere)
        self.assertEqual(self.heap.make(BYTES, 2, 12), 1)
        self.assertEqual(self.values(1), [0] * 12)

    def test_room_for_objects(self):
        for number in range(1, MOST_OBJECTS + 1):
            self.assertEqual(self.heap.make((BYTES, TEMP, 5)[number % 3], 1, 0), number)
        for kind in (BYTES, TEMP, 0):
            self.no_room(kind, 0)
        self.assertEqual(self.heap.used(), (180, 60))
        self.heap.collect(range(1, 60), nowhere)
        self.assertEqual(self.heap.make(TEMP, 1, 3), 60)

    def test_room_for_cells(self):
        for kind in (BYTES, TEMP, 4):
            self.setUp()
            for _ in range(5):
                self.heap.make(kind, 1, 64)
            self.assertEqual(self.heap.used(), (335, 5))
            self.no_room(kind, 63)
            self.no_room(TEMP, 63)
            self.assertEqual(self.heap.make(kind, 1, 62), 6)
            self.assertEqual(self.heap.used(), (400, 6))
            self.no_room(kind, 0)
            self.heap.collect([1, 2, 3, 4, 5], nowhere)
            self.no_room(kind, 63)
            self.heap.make(TEMP, 1, 61)
            self.no_room(kind, 0)

    def test_the_least_free_number(self):
        for _ in range(6):
            self.heap.make(BYTES, 1, 1)
        self.heap.write(4, 0, 44)
        self.heap.collect([1, 4, 6], nowhere)
        self.assertEqual([self.heap.make(0, 2, 0) for _ in range(4)], [2, 3, 5, 7])
        self.assertEqual(self.heap.numbers(), [1, 2, 3, 4, 5, 6, 7])
        self.assertEqual(self.values(4), [44])


class ValuesTest(HeapCase):
    def test_read_and_write(self):
        for kind in (BYTES, 3):
            number = self.heap.make(kind, 1, 3)
            place = self.cells.read(TABLES[0] + number - 1) - 1
            self.assertIsNone(self.heap.write(number, 1, -5))
            self.assertEqual(self.cells.read(ROOMS[0] + place + 4), -5)
            self.assertEqual(self.values(number), [0, -5, 0])

    def test_changes_go_through_the_journal(self):
        number = self.heap.make(BYTES, 1, 3)
        temp = self.heap.make(TEMP, 1, 3)
        self.heap.write(number, 0, 1)
        self.journal.begin()
        self.heap.write(number, 0, 2)
        self.heap.write(number, 2, 3)
        before = self.row()
        for one in (temp, BUFFER):
            self.heap.write(one, 0, 9)
            self.assertEqual(self.heap.read(one, 0), 9)
        self.assertEqual(self.row(), before)
        self.assertEqual(self.cells.read(JOURNAL), 2)
        self.journal.abort()
        self.assertEqual((self.values(number), self.values(temp)), ([1, 0, 0], [9, 0, 0]))
        self.journal.begin()
        for _ in range(40):
            self.heap.write(number, 0, 2)
        self.assertRaises(Fault, self.heap.write, number, 0, 2)
        self.heap.write(temp, 0, 7)
        self.heap.write(BUFFER, 0, 7)

    def test_the_buffer(self):
        self.assertEqual(self.front(BUFFER), (TEMP, 0, MOST_BUFFER))
        self.assertEqual(self.values(BUFFER), [0] * 64)
        before = self.row()
        self.assertIsNone(self.heap.fill((1, 2, 255)))
        self.assertEqual(self.values(BUFFER), [1, 2, 255] + [0] * 61)
        self.heap.write(BUFFER, 63, 8)
        self.heap.fill(tuple(range(64)))
        self.assertEqual(self.values(BUFFER), list(range(64)))
        self.heap.fill(())
        self.assertEqual(self.values(BUFFER), [0] * 64)
        self.assertEqual(self.row(), before)
        self.assertEqual((self.heap.numbers(), self.heap.used()), ([], (0, 0)))

    def test_temps(self):
        temp = self.heap.make(TEMP, 2, 4)
        other = self.heap.make(TEMP, 2, 4)
        before = self.row()
        self.heap.write(temp, 3, 200)
        self.heap.fill((5,))
        self.assertEqual((self.values(temp), self.values(other)), ([0, 0, 0, 200], [0] * 4))
        self.assertEqual(self.row(), before)
        self.start()
        self.assertEqual((self.values(temp), self.values(BUFFER)[0]), ([0] * 4, 0))
        self.heap.write(temp, 1, 7)
        self.assertEqual(self.values(temp), [0, 7, 0, 0])

    def test_the_number_of_a_temp_that_is_given_again(self):
        for kind in (TEMP, BYTES, 0):
            self.setUp()
            self.heap.make(TEMP, 1, 3)
            self.heap.write(1, 0, 9)
            self.heap.collect([], nowhere)
            self.assertEqual(self.heap.make(kind, 1, 3), 1)
            self.assertEqual(self.values(1), [0, 0, 0])
            self.heap.collect([], nowhere)
            self.heap.make(TEMP, 1, 5)
            self.assertEqual(self.values(1), [0] * 5)

    def test_temps_that_are_kept(self):
        for _ in range(3):
            self.heap.make(TEMP, 1, 2)
        for number in (1, 2, 3):
            self.heap.write(number, 1, number)
        self.heap.collect([3, 1], nowhere)
        self.assertEqual((self.values(1), self.values(3)), ([0, 1], [0, 3]))
        self.heap.make(TEMP, 1, 2)
        self.assertEqual(self.values(2), [0, 0])


class CollectTest(HeapCase):
    def some(self):
        """Make objects that refer to each other: 1 to 3 and 4, 3 to 1, 4 to itself, 5 to 6."""
        for kind, size in ((1, 4), (BYTES, 3), (2, 1), (1, 5), (2, 1), (TEMP, 2), (0, 2)):
            self.heap.make(kind, 1 + size, size)
        for number, place, word in ((1, 1, 3), (1, 3, 4), (1, 0, 5), (1, 2, 2), (3, 0, 1), (4, 1, 4), (4, 3, BUFFER), (4, 4, 7),
                                    (5, 0, 6), (2, 0, 7), (6, 0, 1), (7, 0, 1)):
            self.heap.write(number, place, word)

    def test_reached(self):
        self.some()
        for roots, right in (((), []), ((0,), []), ((BUFFER,), []), ((1,), [1, 3, 4]), ((3,), [3, 1, 4]), ((4,), [4]),
                             ((5, 5, 0), [5, 6]), ((6,), [6]), ((7, BUFFER, 2, 7), [7, 2]), ((4, 1), [4, 1, 3]),
                             ((5, 3), [5, 3, 6, 1, 4]), ([2], [2])):
            self.assertEqual(self.heap.reached(roots, pairs), right)

    def test_references_of_the_first_class(self):
        for _ in range(2):
            self.heap.make(0, 1, 1)
        self.heap.make(BYTES, 1, 1)
        self.heap.write(1, 0, 2)
        self.heap.write(2, 0, 3)
        self.heap.write(3, 0, 1)
        asked = []
        self.assertEqual(self.heap.reached([1], lambda kind: asked.append(kind) or [0]), [1, 2, 3])
        # Objects of other kinds refer to none, and are not asked about.
        self.assertEqual(asked, [0, 0])

    def test_a_full_room(self):
        """What stands ahead of the table of the second half is no object."""
        for _ in range(6):
            self.heap.make(BYTES, 1, 63 if len(self.heap.numbers()) < 5 else 67)
        self.assertEqual(self.heap.used(), (400, 6))
        self.heap.write(6, 66, 5)
        self.heap.collect([2], pairs)
        self.assertEqual((self.heap.numbers(), self.heap.used()), ([2], (66, 1)))

    def test_order_of_reached(self):
        """First the roots, then what the first one refers to, and so on."""
        for _ in range(7):
            self.heap.make(1, 1, 4)
        for number, left, right in ((1, 6, 3), (2, 5, 3), (6, 2, 7), (3, 4, 1), (7, 6, 1)):
            self.heap.write(number, 1, left)
            self.heap.write(number, 3, right)
        self.assertEqual(self.heap.reached((1,), pairs), [1, 6, 3, 2, 7, 4, 5])
        self.assertEqual(self.heap.reached((2, 1), pairs), [2, 1, 5, 3, 6, 4, 7])
        self.assertEqual(self.heap.reached((1,), lambda kind: (3, 1)), [1, 6, 3, 2, 7, 4, 5])

    def right_cells(self, kept):
        """Return what stands in the cells when some objects were kept."""
        right = self.row()
        half = 1 - right[START]
        table, room = TABLES[half], ROOMS[half]
        right[table:table + MOST_OBJECTS] = [0] * MOST_OBJECTS
        place = 0
        for number in kept:
            kind, owner, size = self.front(number)
            row = [kind, owner, size] + ([] if kind == TEMP else self.values(number))
            right[table + number - 1] = place + 1
            right[room + place:room + place + len(row)] = row
            place += len(row)
        right[START] = half
        return right

    def test_the_cells(self):
        for roots, kept in (((), []), ((1,), [1, 3, 4]), ((5, 1, 1, 0, BUFFER), [1, 3, 4, 5, 6]), (range(1, 8), [1, 2, 3, 4, 5, 6, 7])):
            self.setUp()
            self.some()
            rows = self.all()
            for again in range(3):
                right = self.right_cells(kept)
                self.assertIsNone(self.heap.collect(roots, pairs))
                self.assertEqual(self.row(), right)
                self.assertEqual(self.all(), {number: rows[number] for number in kept})
                self.assertEqual(self.cells.read(START), (again + 1) % 2)
            self.assertEqual(self.heap.used(), (sum(3 + rows[number][2] for number in kept), len(kept)))
            # The next object stands behind the last one.
            number = self.heap.make(BYTES, 1, 1)
            place = sum(3 + (0 if rows[one][0] == TEMP else rows[one][2]) for one in kept)
            self.assertEqual(self.cells.read(TABLES[1] + number - 1), place + 1)
            self.assertEqual(self.row()[ROOMS[1] + place:ROOMS[1] + place + 4], [-1, 1, 1, 0])

    def test_objects_stand_in_the_order_of_their_numbers(self):
        for size in (5, 1, 3):
            self.heap.make(BYTES, 1, size)
        self.heap.collect([2, 3], pairs)
        self.heap.make(BYTES, 9, 2)
        half = self.cells.read(START)
        self.assertEqual(self.row()[ROOMS[half]:ROOMS[half] + 15], [-1, 1, 1, 0, -1, 1, 3, 0, 0, 0, -1, 9, 2, 0, 0])
        self.heap.collect([1, 2, 3], pairs)
        half = self.cells.read(START)
        self.assertEqual(self.row()[ROOMS[half]:ROOMS[half] + 15], [-1, 9, 2, 0, 0, -1, 1, 1, 0, -1, 1, 3, 0, 0, 0])


class CutTest(HeapCase):
    """The power is cut behind each number of writes."""

    def cut_all(self, ready, call):
        """Return how many writes a call makes, and what there is behind each cut."""
        found = []
        writes = 0
        while True:
            self.setUp()
            ready()
            self.cells.cut(writes)
            try:
                call()
            except PowerCut:
                self.cells.restore()
                self.start()
                found.append(self.all())
                writes += 1
                continue
            self.cells.restore()
            self.start()
            return found, self.all()

    def ready(self):
        self.heap.make(1, 2, 4)
        self.heap.make(BYTES, 3, 2)
        self.heap.make(TEMP, 3, 2)
        self.heap.make(BYTES, 3, 1)
        self.heap.write(2, 1, 77)
        self.heap.write(1, 3, 2)
        self.heap.collect([1, 3, 4], pairs)

    def test_make(self):
        for kind, size in ((BYTES, 5), (TEMP, 5), (0, 0), (3, 2)):
            self.setUp()
            self.ready()
            before = self.all()
            cuts, after = self.cut_all(self.ready, lambda: self.heap.make(kind, 4, size))
            self.assertEqual(len(cuts), 4 + (0 if kind == TEMP else size))
            self.assertEqual(cuts, [before] * len(cuts))
            before[5] = (kind, 4, size, [0] * size)
            self.assertEqual(after, before)

    def test_make_behind_a_make_that_was_cut(self):
        self.ready()
        self.cells.cut(6)
        self.assertRaises(PowerCut, self.heap.make, 9, 9, 9)
        self.cells.restore()
        self.start()
        self.assertEqual(self.heap.make(BYTES, 1, 3), 5)
        self.assertEqual(self.all()[5], (BYTES, 1, 3, [0] * 3))

    def test_write(self):
        self.ready()
        before = self.all()
        cuts, after = self.cut_all(self.ready, lambda: self.heap.write(2, 0, 5))
        self.assertEqual(cuts, [before])
        before[2] = (BYTES, 3, 2, [5, 77])
        self.assertEqual(after, before)

    def test_write_in_a_transaction(self):
        def ready():
            self.ready()
            self.journal.begin()
            self.heap.write(1, 0, 3)

        def call():
            self.heap.write(2, 0, 5)
            self.heap.write(1, 0, 4)
            self.journal.commit()
        self.setUp()
        self.ready()
        before = self.all()
        cuts, after = self.cut_all(ready, call)
        self.assertEqual(cuts, [before] * 9)
        before.update({1: (1, 2, 4, [4, 0, 0, 2]), 2: (BYTES, 3, 2, [5, 77])})
        self.assertEqual(after, before)

    def test_collect(self):
        for roots, kept in (([1], [1, 2]), ([4, 3], [3, 4]), ([], []), ([1, 3, 4], [1, 2, 3, 4])):
            self.setUp()
            self.ready()
            before = self.all()
            cuts, after = self.cut_all(self.ready, lambda: self.heap.collect(roots, pairs))
            cells = sum(3 + (0 if before[number][0] == TEMP else before[number][2]) for number in kept)
            self.assertEqual(len(cuts), cells + MOST_OBJECTS + 1)
            self.assertEqual(cuts, [before] * len(cuts))
            self.assertEqual(after, {number: before[number] for number in kept})

    def test_collect_behind_a_collect_that_was_cut(self):
        for writes in (0, 5, 30, 68):
            self.setUp()
            self.ready()
            rows = self.all()
            self.cells.cut(writes)
            self.assertRaises(PowerCut, self.heap.collect, [1, 3, 4], pairs)
            self.cells.restore()
            self.start()
            self.heap.make(BYTES, 1, 6)
            self.heap.collect([4], pairs)
            self.assertEqual(self.all(), {4: rows[4]})
            self.assertEqual(self.heap.make(0, 1, 2), 1)
            self.assertEqual(self.all(), {1: (0, 1, 2, [0, 0]), 4: rows[4]})


class ChanceTest(HeapCase):
    def test_against_a_dict(self):
        for seed in range(20):
            self.setUp()
            chance = Random(seed)
            rows = {}
            for _ in range(300):
                word = chance.choice(("make", "make", "write", "write", "write", "start", "collect" if chance.random() < 0.2 else "make"))
                if word == "make":
                    kind, size = chance.choice(((BYTES, chance.randrange(9)), (TEMP, chance.randrange(9)), (1, 4), (2, 1), (0, 2)))
                    used = sum(3 + len(row[3]) for row in rows.values())
                    if len(rows) == 60 or used + 3 + size > 400:
                        self.no_room(kind, size)
                    else:
                        number = min(set(range(1, 61)) - set(rows))
                        self.assertEqual(self.heap.make(kind, 2, size), number)
                        rows[number] = (kind, 2, size, [0] * size)
                elif word == "write" and rows:
                    number = chance.choice(sorted(rows))
                    kind, _, size, row = rows[number]
                    if size:
                        place = chance.randrange(size)
                        inner = kind > 0 and place in pairs(kind)
                        row[place] = chance.choice([0] + sorted(rows)) if inner else chance.randrange(-9, 99)
                        self.heap.write(number, place, row[place])
                elif word == "start":
                    self.start()
                    for kind, _, size, row in rows.values():
                        row[:] = [0] * size if kind == TEMP else row
                elif word == "collect":
                    roots = chance.sample(sorted(rows), min(len(rows), chance.randrange(9)))
                    self.heap.collect(roots, pairs)
                    kept = list(roots)
                    for number in kept:
                        kind, _, _, row = rows[number]
                        kept += [row[place] for place in (pairs(kind) if kind >= 0 else ()) if row[place] and row[place] not in kept]
                    rows = {number: rows[number] for number in rows if number in kept}
                self.assertEqual(self.all(), rows)
                self.assertEqual(self.heap.used(), (sum(3 + len(row[3]) for row in rows.values()), len(rows)))


if __name__ == "__main__":
    unittest.main()
