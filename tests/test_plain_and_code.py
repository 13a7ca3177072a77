"""Points 400 to 424, 600 to 608 and 700 to 706 together: plain cards answer like cards that run the compiled modules."""

import unittest
from random import Random

from codecards import CodeCard
from programs import USED, Programs
from warycard.core import is_core
from warycard.plain import PlainCard

FAR = ("core", "far", 7, (), USED["far"][1], (), ())
BANK = ("core", "bank", 2, (("far", 7),), USED["bank"][1], (), ())
NAMES = ("one", "two", "three")


class CardsTest(unittest.TestCase):
    def calls(self, chance, classes):
        """Return calls that are made by chance."""
        def data():
            return tuple(chance.randrange(256) for _ in range(chance.randrange(4)))
        found = []
        for _ in range(40):
            kind = chance.choice(("make", "make", "choose", "choose", "send", "send", "send", "send", "drop", "collect", "reset",
                                  "cut" if chance.random() < 0.5 else "send"))
            if kind == "make":
                found.append((kind,) + chance.choice(classes) + (chance.choice(NAMES), data()))
            elif kind == "choose":
                found.append((kind, chance.randrange(2), chance.choice(NAMES)))
            elif kind == "send":
                found.append((kind, chance.randrange(2), data()))
            elif kind == "drop":
                found.append((kind, chance.choice(NAMES)))
            else:
                found.append((kind, chance.randrange(9)) if kind == "cut" else (kind,))
        return found

    def test_cards_answer_alike(self):
        self.assertTrue(is_core(BANK, {"far": (7, FAR[4])}))
        for seed in range(120):
            cores = [FAR, BANK, Programs(seed).core(room=8), Programs(seed + 10 ** 6).core("other", room=8)]
            classes = [(core[1], core[5][k][0]) for core in cores for k in core[6]]
            cards = [PlainCard(), CodeCard(False), CodeCard(True)]
            for core in cores:
                self.assertEqual([card.load(core) for card in cards], [("ok",)] * 3)
            for call in self.calls(Random(seed), classes) if classes else ():
                told = [getattr(card, call[0])(*call[1:]) for card in cards]
                pictures = [(card.state(), card.used(), card.chosen()) for card in cards]
                for k in (1, 2):
                    self.assertEqual(told[k], told[0], (seed, call))
                    self.assertEqual(pictures[k], pictures[0], (seed, call))


if __name__ == "__main__":
    unittest.main()
