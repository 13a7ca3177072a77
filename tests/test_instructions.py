"""Point 505: the names of the instructions."""

import unittest

from warycard.instructions import NAMES


class NamesTest(unittest.TestCase):
    def test_names(self):
        self.assertEqual(NAMES, (
            "const", "null", "load", "store", "pop", "neg", "not", "op", "same", "jump", "jumpif", "jumpnot", "get", "put",
            "at", "setat", "size", "new", "bytes", "temp", "callc", "callf", "return", "returnv", "throw", "is", "as",
            "seek", "buffer", "begin", "commit", "abort", "step"))
        self.assertEqual(len(NAMES), 33)


if __name__ == "__main__":
    unittest.main()
