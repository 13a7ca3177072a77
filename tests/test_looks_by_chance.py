"""Points 902 to 909: papers and their judge, compared with a second writing of them."""

import unittest
from random import Random

from bundles import others, part_at, paths, replaced
from codebundle import world_of
from paperform import judged, written
from programs import USED, Programs
from values import ANY
from warycard.compiling import build
from warycard.errors import BadPaper
from warycard.looks import judge, paper

FAR = build(("core", "far", 7, (), USED["far"][1], (), ()))
BANK = build(("core", "bank", 2, (("far", 7),), USED["bank"][1], (), ()))


def answer(world, name, value):
    """Return what the judge answers, or None if the paper is refused."""
    try:
        return judge(world, name, value)
    except BadPaper:
        return None


class ChanceTest(unittest.TestCase):
    def modules(self, seeds, room):
        for seed in seeds:
            module = build(Programs(seed).core(room=room), improve=seed % 2 == 0)
            yield seed, {one[1]: one for one in (FAR, BANK, module)}

    def test_papers_and_needless_looks(self):
        many = 0
        for seed, modules in self.modules(range(200), 7):
            world = world_of(*modules.values())
            right = written(modules, "own")
            self.assertEqual(paper(world, "own"), right, seed)
            found = judge(world, "own", right)
            self.assertEqual(found, judged(modules, "own", right), seed)
            many += len(found)
            self.assertEqual(judge(world, "bank", paper(world, "bank")), ())
        self.assertGreater(many, 300)

    def test_papers_that_were_changed(self):
        told = {True: 0, False: 0}
        for seed, modules in self.modules(range(30), 5):
            world = world_of(*modules.values())
            best = paper(world, "own")
            most = judge(world, "own", best)
            chance = Random(seed)
            places = [path for path in paths(best) if path]
            for path in chance.sample(places, min(15, len(places))):
                for part in others(part_at(best, path)):
                    other = replaced(best, path, part)
                    right = judged(modules, "own", other)
                    self.assertEqual(answer(world, "own", other), right, (seed, other))
                    told[right is None] += 1
                    # No paper has a needless look more.
                    self.assertLessEqual(set(right or ()), set(most))
        self.assertGreater(min(told.values()), 100)

    def test_papers_that_claim_by_chance(self):
        """Papers with fewer claims of all sorts, and places with more that is loose."""
        taken = 0
        for seed, modules in self.modules(range(80), 7):
            world = world_of(*modules.values())
            _, fields, calls, places = paper(world, "own")
            most = set(judge(world, "own", paper(world, "own")))
            chance = Random(seed)
            for _ in range(12):
                few = tuple(row for row in fields if chance.random() < 0.9)
                rows = tuple((number, tuple(slot for slot in slots if chance.random() < 0.9), result * chance.randint(0, 1))
                             for number, slots, result in calls if chance.random() < 0.9)
                loose = []
                for number, place, slots, stack in places:
                    kinds = (("class", 0),) + modules["own"][6][number][2] + modules["own"][6][number][4]
                    slots = {slot for slot, kind in enumerate(kinds) if kind[0] in ("bytes", "face")
                             and (slot in slots or chance.random() < 0.8)}
                    loose.append((number, place, tuple(sorted(slots)), stack))
                other = ("looks", few, rows, tuple(loose))
                right = judged(modules, "own", other)
                self.assertEqual(answer(world, "own", other), right, (seed, other))
                self.assertLessEqual(set(right or ()), most)
                taken += right is not None
        self.assertGreater(taken, 100)

    def test_any_value(self):
        for seed, modules in self.modules(range(3), 5):
            world = world_of(*modules.values())
            best = paper(world, "own")
            chance = Random(seed)
            for value in ANY:
                self.assertIsNone(answer(world, "own", value))
                for path in chance.sample(list(paths(best)), 12):
                    if path:
                        other = replaced(best, path, value)
                        if isinstance(value, (bool, type(None), float, complex, list, dict, set, bytes)):
                            self.assertIsNone(answer(world, "own", other), other)
                        else:
                            answer(world, "own", other)


if __name__ == "__main__":
    unittest.main()
