"""Point 1011: the names of the applets in the cells."""

import unittest

from warycard.cells import Cells
from warycard.errors import PowerCut
from warycard.limits import MOST_APPLETS, MOST_TEXT
from warycard.names import CHARACTERS, NAMES_CELLS, Names
from warycard.texts import is_printable, is_text

START = 25


class NamesTest(unittest.TestCase):
    def setUp(self):
        self.cells = Cells(START + NAMES_CELLS + 2)
        # What stands around them does not matter.
        for place in list(range(START)) + [START + NAMES_CELLS, START + NAMES_CELLS + 1]:
            self.cells.write(place, 1)
        self.names = Names(self.cells, START)

    def row(self):
        return [self.cells.read(place) for place in range(START + NAMES_CELLS + 2)]

    def test_numbers_and_characters(self):
        self.assertEqual(NAMES_CELLS, MOST_APPLETS * (3 + MOST_TEXT))
        right = "".join(chr(code) for code in range(32, 127) if chr(code) not in ('"', chr(37)))
        self.assertEqual(CHARACTERS, right)
        self.assertTrue(is_printable(CHARACTERS))

    def test_nothing_is_written_at_first(self):
        self.cells.cut(0)
        names = Names(self.cells, START)
        self.assertEqual(names.rows(), [])

    def test_the_cells(self):
        right = self.row()
        for owner, number, name in ((1, 60, "a"), (8, 1, "x" * 16), (3, 7, CHARACTERS[:16])):
            first = START + (owner - 1) * 19
            self.assertIsNone(self.names.put(owner, number, name))
            right[first:first + 3 + len(name)] = [1, number, len(name)] + [CHARACTERS.index(letter) for letter in name]
            self.assertEqual(self.row(), right)
        self.assertEqual(self.names.rows(), [(1, 60, "a"), (3, 7, CHARACTERS[:16]), (8, 1, "x" * 16)])
        # A shorter name leaves what stood behind it.
        self.names.put(8, 2, "yz")
        first = START + 7 * 19
        right[first + 1:first + 5] = [2, 2, CHARACTERS.index("y"), CHARACTERS.index("z")]
        self.assertEqual(self.row(), right)
        self.assertEqual(self.names.rows()[-1], (8, 2, "yz"))

    def test_remove(self):
        for owner in (2, 5):
            self.names.put(owner, owner, "name")
        right = self.row()
        self.assertIsNone(self.names.remove(2))
        right[START + 19] = 0
        self.assertEqual(self.row(), right)
        self.assertEqual(self.names.rows(), [(5, 5, "name")])
        for owner in (2, 1, 8):
            self.names.remove(owner)
            self.assertEqual(self.row(), right)
        self.names.put(2, 9, "n")
        self.assertEqual(self.names.rows(), [(2, 9, "n"), (5, 5, "name")])

    def test_every_character(self):
        for letter in CHARACTERS:
            for name in (letter, letter * 16, "a" + letter):
                self.assertTrue(is_text(name))
                self.names.put(4, 1, name)
                self.assertEqual(self.names.rows(), [(4, 1, name)])

    def test_all_owners(self):
        for owner in (3, 1, 8, 5, 2, 7, 4, 6):
            self.names.put(owner, 10 + owner, "applet " + str(owner))
        self.assertEqual(self.names.rows(), [(owner, 10 + owner, "applet " + str(owner)) for owner in range(1, 9)])
        self.assertEqual(self.row()[:START], [1] * START)
        self.assertEqual(self.row()[-2:], [1, 1])

    def test_cut(self):
        """The applet is there from the last write of put on, and up to the write of remove."""
        for name in ("n", "0123456789abcdef"):
            for writes in range(3 + len(name) + 1):
                self.setUp()
                self.names.put(1, 5, "other")
                self.cells.cut(writes)
                there = writes == 3 + len(name)
                if there:
                    self.names.put(2, 6, name)
                else:
                    self.assertRaises(PowerCut, self.names.put, 2, 6, name)
                self.cells.restore()
                right = [(1, 5, "other")] + [(2, 6, name)] * there
                self.assertEqual(Names(self.cells, START).rows(), right)
                # The cells are written in ascending order, the first one last.
                row = [there, 6, len(name)] + [CHARACTERS.index(letter) for letter in name]
                first = START + 19
                self.assertEqual(self.row()[first:first + len(row)][1:1 + writes], row[1:1 + writes])
                self.assertEqual(sum(self.row()[first + 1 + writes:first + 19]), 0)
        self.cells.cut(0)
        self.assertRaises(PowerCut, self.names.remove, 1)
        self.cells.restore()
        self.assertEqual(self.names.rows()[0], (1, 5, "other"))


if __name__ == "__main__":
    unittest.main()
