"""Points 103 and 104."""

import unittest

from warycard import limits

VALUES = {
    "MOST_SOURCE": 20000, "MOST_NAME": 20, "MOST_TEXT": 16, "MOST_VERSION": 255, "MOST_ITEMS": 60,
    "MOST_METHODS": 120, "MOST_INT": 32767, "MOST_OPEN": 24, "MOST_NESTED": 16, "MOST_NODES": 300,
    "MOST_CODE": 2000, "MOST_STACK": 300, "MOST_HANDLERS": 300, "MOST_APPLETS": 8, "MOST_CHANNELS": 4,
    "MOST_BUFFER": 64, "MOST_BYTES": 64, "MOST_CELLS": 400, "MOST_OBJECTS": 60, "MOST_LOG": 40,
    "MOST_DEPTH": 8, "MOST_STEPS": 1000,
    "NULL": -1, "PLACE": -2, "DIVIDED": -3, "KIND": -4, "LOOK": -5, "ROOM": -6, "SIZE": -7,
    "TRANSACTION": -8, "DEPTH": -9, "STEPS": -10,
}


class LimitsTest(unittest.TestCase):
    def test_values(self):
        found = {name: value for name, value in vars(limits).items() if not name.startswith("__")}
        self.assertEqual(found, VALUES)

    def test_kinds(self):
        for name in VALUES:
            self.assertIs(type(getattr(limits, name)), int, name)


if __name__ == "__main__":
    unittest.main()
