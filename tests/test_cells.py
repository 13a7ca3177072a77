"""Points 1000 and 1001: the cells."""

import unittest

from warycard.cells import Cells
from warycard.errors import PowerCut


class CellsTest(unittest.TestCase):
    def test_reads_and_writes(self):
        cells = Cells(3)
        self.assertEqual([cells.read(place) for place in range(3)], [0, 0, 0])
        self.assertIsNone(cells.write(1, -32768))
        self.assertIsNone(cells.write(2, 32767))
        self.assertEqual([cells.read(place) for place in range(3)], [0, -32768, 32767])
        cells.write(1, 0)
        self.assertEqual(cells.read(1), 0)
        self.assertIs(cells.on(), True)

    def test_cut_behind_writes(self):
        for writes in range(4):
            cells = Cells(9)
            cells.write(8, 8)
            self.assertIsNone(cells.cut(writes))
            for place in range(writes):
                self.assertIs(cells.on(), True)
                cells.write(place, 5)
                self.assertEqual(cells.read(8), 8)
            # Reads do not count, and the power is there up to the write.
            self.assertIs(cells.on(), True)
            self.assertEqual(cells.read(0), 5 if writes else 0)
            self.assertRaises(PowerCut, cells.write, 7, 1)
            self.assertIs(cells.on(), False)
            for _ in range(2):
                self.assertRaises(PowerCut, cells.read, 0)
                self.assertRaises(PowerCut, cells.write, 0, 1)
            self.assertIsNone(cells.restore())
            self.assertIs(cells.on(), True)
            self.assertEqual([cells.read(place) for place in range(9)], [5] * writes + [0] * (8 - writes) + [8])
            for place in range(9):
                cells.write(place, 1)

    def test_a_later_cut(self):
        for first, second in ((0, 2), (2, 0), (5, 1)):
            cells = Cells(9)
            cells.cut(first)
            cells.cut(second)
            for place in range(second):
                cells.write(place, 1)
            self.assertRaises(PowerCut, cells.write, 0, 2)
        cells = Cells(9)
        cells.cut(2)
        cells.write(0, 1)
        cells.cut(2)
        cells.write(1, 1)
        cells.write(2, 1)
        self.assertRaises(PowerCut, cells.write, 3, 1)

    def test_a_cut_without_power(self):
        cells = Cells(2)
        cells.cut(0)
        self.assertRaises(PowerCut, cells.write, 0, 1)
        cells.cut(5)
        self.assertIs(cells.on(), False)
        self.assertRaises(PowerCut, cells.read, 0)
        self.assertRaises(PowerCut, cells.write, 0, 1)
        cells.cut(0)
        cells.restore()
        cells.write(0, 3)
        self.assertEqual(cells.read(0), 3)

    def test_restore_forgets_a_cut(self):
        cells = Cells(2)
        cells.cut(1)
        cells.restore()
        for word in range(5):
            cells.write(0, word)
        self.assertEqual(cells.read(0), 4)


if __name__ == "__main__":
    unittest.main()
