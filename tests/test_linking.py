"""Points 700 to 706."""

import unittest

from bundles import BACK, BYTES, INT, NOTHING, module_with
from programs import Programs
from warycard.compiling import build
from warycard.errors import BadLink
from warycard.linking import World
from warycard.modules import is_module

NULL = ("null",)
MADE, PROCESS = ("made", (INT,), NOTHING), ("process", (INT,), INT)
PAY, ASK, BASE = ("face", "bank", "Pay"), ("face", "bank", "Ask"), ("face", "base", "Base")
GO = ("go", (INT, PAY), NOTHING)


def classes_of(*rows):
    """Return the classes and the methods of a module; a row is a name, a parent, faces, fields and heads."""
    classes, methods = [], []
    for k, (name, parent, faces, fields, heads) in enumerate(rows):
        lines = list(classes[parent][4]) if parent >= 0 else []
        names = [line[0] for line in lines]
        for head in heads:
            line = head + (len(methods),)
            methods.append((k,) + head + ((), 0, BACK, ()))
            if head[0] in names:
                lines[names.index(head[0])] = line
            else:
                lines.append(line)
        classes.append((name, parent, faces, fields, tuple(lines)))
    return {"classes": tuple(classes), "methods": tuple(methods)}


BASE_MODULE = module_with(name="base", version=3, faces=(("Base", (("base", (), INT),)), ("Empty", ())),
                          **classes_of(("A", -1, (BASE,), (INT,), (("base", (), INT),))))
BANK = module_with(name="bank", version=2, uses=(("base", 3),), faces=(("Pay", (GO, ("n", (), PAY))), ("Ask", (("n", (), PAY),))))
OWN = module_with(
    name="own", version=1, uses=(("bank", 2), ("base", 3)), faces=(("F", (("go", (INT, PAY), NOTHING),)),), applets=(1, 2),
    **classes_of(
        ("A", -1, (("face", "own", "F"),), (INT,), (GO,)),
        ("B", 0, (ASK,), (INT, BASE), (("n", (), PAY), MADE, PROCESS)),
        ("C", 1, (PAY, BASE), (INT, BASE, ("class", 0)), (GO, ("base", (), INT))),
        ("D", -1, (), (), ()),
    ))


def world_of(*modules):
    world = World()
    for module in modules:
        assert world.add(module) is None
    return world


def picture(world):
    """Return what can be seen of a world."""
    names = world.names()
    return (names, [world.module(name) for name in names], world.count(),
            [(world.package(g), world.own(g), world.fields(g)) for g in range(world.count())])


class AddTest(unittest.TestCase):
    def refused(self, world, module):
        self.assertTrue(is_module(module), module)
        before = picture(world)
        with self.assertRaises(BadLink):
            world.add(module)
        self.assertEqual(picture(world), before)

    def setUp(self):
        self.world = world_of(BASE_MODULE, BANK)

    def test_modules_in_order(self):
        world = World()
        self.assertEqual(picture(world), ([], [], 0, []))
        self.refused(world, BANK)
        self.refused(world, OWN)
        self.assertIsNone(world.add(BASE_MODULE))
        self.refused(world, OWN)
        self.assertIsNone(world.add(BANK))
        self.assertIsNone(world.add(OWN))
        for module in (BASE_MODULE, BANK, OWN):
            self.refused(world, module)
            self.refused(world, module[:2] + (99,) + module[3:])
        self.assertEqual(world.names(), ["base", "bank", "own"])

    def test_versions(self):
        for uses in ((("bank", 1),), (("bank", 3),), (("base", 2),), (("none", 2),), (("base", 3), ("bank", 3)), (("own", 1),)):
            self.refused(self.world, module_with(name="x", uses=uses))
        self.world.add(module_with(name="x", uses=(("bank", 2), ("base", 3))))

    def test_faces_that_are_named(self):
        gone = ("face", "bank", "Gone")
        uses = (("bank", 2),)
        right = ("a", (PAY,), PAY)
        for kind, holds in ((PAY, True), (ASK, True), (gone, False), (("face", "bank", "Base"), False), (("face", "bank", "X"), False)):
            heads = ((("a", (kind,), INT),), (("a", (), kind),), (right, ("b", (INT, PAY, kind), INT)))
            modules = [module_with(name="x", uses=uses, faces=(("F", ()), ("G", row))) for row in heads]
            modules += [module_with(name="x", uses=uses, **classes_of(("A", -1, (), (), row))) for row in heads]
            modules += [module_with(name="x", uses=uses, **classes_of(("A", -1, (), (INT, kind), ()))),
                        module_with(name="x", uses=uses, **classes_of(("Z", -1, (), (), ()), ("A", 0, (), (kind,), ())))]
            if kind != PAY:
                needed = (("n", (), PAY),)
                modules.append(module_with(name="x", uses=uses, **classes_of(("A", -1, (kind,), (), needed))))
            small = classes_of(("A", -1, (), (), (("a", (), NOTHING),)))
            method = small["methods"][0]
            small["methods"] = (method[:4] + ((INT, kind),) + method[5:],)
            modules.append(module_with(name="x", uses=uses, **small))
            for module in modules:
                if holds:
                    world_of(BASE_MODULE, BANK, module)
                else:
                    self.refused(self.world, module)
        # The code is looked at later.
        code = (("is", gone), ("seek", gone, "x"), ("callf", "bank", "Gone", 5), ("return",))
        small = classes_of(("A", -1, (), (), (("a", (), NOTHING),)))
        small["methods"] = (small["methods"][0][:6] + (code, ()),)
        module = module_with(name="x", uses=uses, **small)
        self.assertTrue(is_module(module))
        self.assertIsNone(self.world.add(module))

    def test_heads_of_faces(self):
        uses = (("bank", 2), ("base", 3))
        other = ("n", (), PAY)
        for face, heads, holds in (
            (PAY, (GO, other), True), (PAY, (other, GO), True), (PAY, (GO,), False), (PAY, (other,), False), (PAY, (), False),
            (PAY, (("go", (INT,), NOTHING), other), False), (PAY, (("go", (INT, ASK), NOTHING), other), False),
            (PAY, (("go", (INT, PAY), INT), other), False), (PAY, (("went", (INT, PAY), NOTHING), other), False),
            (PAY, (GO, ("n", (), ASK)), False), (PAY, (GO, ("n", (), NOTHING)), False), (ASK, (other,), True), (ASK, (GO,), False),
            (("face", "x", "F"), (GO,), True), (("face", "x", "F"), (other,), False), (("face", "x", "G"), (), True),
            (("face", "base", "Empty"), (), True), (BASE, (("base", (), INT),), True), (BASE, (("base", (INT,), INT),), False),
        ):
            for rows in ((("A", -1, (face,), (), heads),), (("Z", -1, (), (), heads), ("A", 0, (face,), (), ())),
                         (("A", -1, (face,), (), heads), ("Z", 0, (), (), ())),
                         (("Y", -1, (), (), ()), ("A", 0, (("face", "x", "G"), face) if face[2] != "G" else (face,), (), heads))):
                module = module_with(name="x", uses=uses, faces=(("F", (GO,)), ("G", ())), **classes_of(*rows))
                if holds:
                    world_of(BASE_MODULE, BANK, module)
                else:
                    self.refused(self.world, module)

    def test_applets(self):
        for heads, holds in (((MADE, PROCESS), True), ((PROCESS, MADE), True), ((MADE,), False), ((PROCESS,), False), ((), False),
                             ((MADE, ("process", (INT,), NOTHING)), False), ((MADE, ("process", (), INT)), False),
                             ((MADE, ("process", (BYTES,), INT)), False), ((("made", (INT,), INT), PROCESS), False),
                             ((("made", (INT, INT), NOTHING), PROCESS), False), ((("made", (), NOTHING), PROCESS), False)):
            for rows, applets in (((("A", -1, (), (), heads),), (0,)), ((("A", -1, (), (), heads), ("B", 0, (), (), ())), (1,)),
                                  ((("Z", -1, (), (), (MADE, PROCESS)), ("A", -1, (), (), heads)), (0, 1))):
                module = module_with(name="x", applets=applets, **classes_of(*rows))
                if holds:
                    world_of(BASE_MODULE, module)
                else:
                    self.refused(self.world, module)
            world_of(module_with(name="x", **classes_of(("A", -1, (), (), heads))))

    def test_modules_of_programs(self):
        faces = (("Pay", (("pay", (INT,), INT), ("far", (), ("face", "far", "Q")), ("give", (("face", "far", "Q"), INT), NOTHING),
                          ("peer", (), PAY))), ("Ask", (("ask", (INT, BYTES), INT), ("peer", (), PAY))))
        for seed in range(40):
            world = world_of(module_with(name="far", version=7, faces=(("Q", (("go", (), INT),)),)),
                             module_with(name="bank", version=2, uses=(("far", 7),), faces=faces))
            core = Programs(seed).core()
            world.add(build(core))
            self.assertEqual(world.count(), len(core[5]))


class AskTest(unittest.TestCase):
    def setUp(self):
        self.world = world_of(BASE_MODULE, BANK, OWN)

    def test_modules(self):
        world = self.world
        self.assertEqual(world.names(), ["base", "bank", "own"])
        world.names().append("x")
        self.assertEqual(world.names(), ["base", "bank", "own"])
        for module in (BASE_MODULE, BANK, OWN):
            self.assertEqual(world.module(module[1]), module)
        for name in ("x", "", "Own"):
            with self.assertRaises(BadLink):
                world.module(name)

    def test_faces(self):
        self.assertEqual(self.world.face("bank", "Ask"), (("n", (), PAY),))
        self.assertEqual(self.world.face("base", "Empty"), ())
        for package, name in (("bank", "Base"), ("x", "Pay"), ("own", "Pay"), ("bank", "x"), ("own", "A")):
            self.assertIsNone(self.world.face(package, name))

    def test_numbers(self):
        world = self.world
        self.assertEqual(world.count(), 5)
        self.assertEqual([(world.package(g), world.own(g)) for g in range(5)],
                         [("base", 0), ("own", 0), ("own", 1), ("own", 2), ("own", 3)])
        self.assertEqual([world.number("own", k) for k in range(4)], [1, 2, 3, 4])
        self.assertEqual(world.number("base", 0), 0)
        world.add(module_with(name="x", **classes_of(("A", -1, (), (BYTES,), ()))))
        self.assertEqual((world.count(), world.number("x", 0), world.package(5), world.own(5)), (6, 5, "x", 0))

    def test_fields_and_methods(self):
        world = self.world
        self.assertEqual([world.fields(g) for g in range(5)],
                         [(INT,), (INT,), (INT, BASE), (INT, BASE, ("class", 0)), ()])
        self.assertEqual([world.method(2, row) for row in range(4)], [0, 1, 2, 3])
        self.assertEqual([world.method(3, row) for row in range(5)], [4, 1, 2, 3, 5])
        self.assertEqual(world.method(0, 0), 0)

    def test_rows(self):
        world = self.world
        for g, package, face, number, place in (
            (0, "base", "Base", 0, 0), (0, "bank", "Ask", 0, -1), (0, "base", "Empty", 0, -1), (1, "own", "F", 0, 0),
            (1, "bank", "Pay", 0, -1), (2, "own", "F", 0, 0), (2, "bank", "Ask", 0, 1), (2, "bank", "Pay", 0, -1),
            (3, "own", "F", 0, 0), (3, "bank", "Ask", 0, 1), (3, "bank", "Pay", 0, 0), (3, "bank", "Pay", 1, 1), (3, "base", "Base", 0, 4),
            (4, "own", "F", 0, -1), (2, "base", "Base", 0, -1), (3, "x", "Y", 0, -1),
        ):
            self.assertEqual(world.row(g, package, face, number), place)

    def test_is_kind(self):
        above = {0: (), 1: (0,), 2: (0, 1), 3: (0, 1, 2), 4: (3,)}
        own = ("face", "own", "F")
        faces = {0: (BASE,), 1: (own,), 2: (own, ASK), 3: (own, ASK, PAY, BASE), 4: ()}
        for g in range(5):
            for package in ("base", "bank", "own"):
                for k in range(4):
                    holds = package == "own" and k in above[g] if g > 0 else package == "base" and k == 0
                    self.assertIs(self.world.is_kind(g, package, ("class", k)), holds, (g, package, k))
                for face in (own, ASK, PAY, BASE, ("face", "base", "Empty"), ("face", "own", "Pay"), ("face", "bank", "F")):
                    self.assertIs(self.world.is_kind(g, package, face), face in faces[g])
                for kind in (INT, BYTES, NULL, NOTHING):
                    self.assertIs(self.world.is_kind(g, package, kind), False)

    def test_fits(self):
        own = ("face", "own", "F")
        classes = [("class", k) for k in range(4)]
        kinds = [INT, BYTES, NULL, NOTHING, own, ASK, PAY, BASE] + classes
        wider = {classes[0]: [own], classes[1]: [own, classes[0], ASK], classes[2]: [own, ASK, PAY, BASE, classes[0], classes[1]]}
        for one in kinds:
            for other in kinds:
                holds = one == other and one != NOTHING or other in wider.get(one, [])
                holds = holds or one == NULL and other[0] in ("bytes", "class", "face")
                self.assertIs(self.world.fits("own", one, other), holds, (one, other))
        self.assertIs(self.world.fits("base", ("class", 0), BASE), True)
        self.assertIs(self.world.fits("base", ("class", 0), own), False)

    def test_applets(self):
        for package, name, g in (("own", "B", 2), ("own", "C", 3), ("own", "A", -1), ("own", "D", -1), ("own", "X", -1), ("own", "F", -1),
                                 ("base", "A", -1), ("x", "B", -1), ("bank", "Pay", -1)):
            self.assertEqual(self.world.applet(package, name), g)

    def test_worlds_do_not_share(self):
        self.assertEqual(picture(World()), ([], [], 0, []))
        self.assertEqual(self.world.module("own"), OWN)


if __name__ == "__main__":
    unittest.main()
