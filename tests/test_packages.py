"""Points 301 to 303."""

import unittest
from copy import deepcopy

from values import ANY
from warycard.packages import Package

INT, BYTES, NULL, NOTHING = ("int",), ("bytes",), ("null",), ("nothing",)
GO = ("go", (INT,), NOTHING)
ASK = ("ask", (), ("face", "far", "F"))


def face(package, name):
    return ("face", package, name)


def row(name, parent, *faces):
    return (name, parent, faces, (), (), ())


# Class 0 has two faces, 1 is below it, 2 is below 1 and has a face of a used package, 3 stands alone.
CORE = (
    "core", "own", 1, (("bank", 2), ("shop", 0)), (("F", (GO,)), ("G", ()), ("H", (GO, ASK))),
    (row("A", -1, face("own", "F"), face("own", "G")), row("B", 0), row("C", 1, face("bank", "F")), row("D", -1),
     row("E", 1, face("own", "H"))),
    (3,),
)
USED = {
    "bank": (2, (("F", (ASK,)), ("P", (GO, GO)))),
    "shop": (0, ()),
    "far": (1, (("F", (GO,)),)),
    "own": (9, (("F", ()), ("Z", (GO,)))),
}
CLASSES = [("class", k) for k in range(5)]
FACES = [face("own", "F"), face("own", "G"), face("own", "H"), face("bank", "F"), face("bank", "P")]
UNKNOWN = [
    face("far", "F"), face("own", "Z"), face("bank", "G"), face("shop", "F"), face("none", "F"), face("F", "own"),
    ("class", 5), ("class", -1), ("class", 10 ** 40), ("class", True), ("class", False), ("class", None), ("class", "A"),
    ("class",), ("class", 0, 0), ("face", "own"), ("face", "own", "F", 0), ("face", None, "F"), ("face", "own", None),
    ("face", "own", ["F"]), ("face", ["own"], "F"), ("face", ("own",), "F"), ("face", 1, "F"), ("face", "own", 0),
    NULL, NOTHING, ("int", 1), ("bytes", ()), (INT,), ("Int",), ("",),
]
# The classes above each class, itself first, and the faces that it lists.
ABOVE = {0: (0,), 1: (1, 0), 2: (2, 1, 0), 3: (3,), 4: (4, 1, 0)}


def reference(one, other):
    """Point 303, word by word."""
    if one == other and one != NOTHING:
        return True
    if one == NULL and other[0] in ("bytes", "class", "face"):
        return True
    if one[0] == "class" and other[0] == "class":
        return other[1] in ABOVE[one[1]]
    if one[0] == "class" and other[0] == "face":
        return any(other in CORE[5][k][2] for k in ABOVE[one[1]])
    return False


class PackageTest(unittest.TestCase):
    def setUp(self):
        self.package = Package(CORE, USED)

    def test_fits_each_pair(self):
        kinds = [INT, BYTES, NOTHING] + CLASSES + FACES + [face("far", "F")]
        for one in kinds + [NULL]:
            for other in kinds:
                with self.subTest(one=one, other=other):
                    self.assertIs(self.package.fits(one, other), reference(one, other))

    def test_fits_by_name(self):
        right = (
            (("class", 2), ("class", 0)), (("class", 2), face("own", "G")), (("class", 2), face("bank", "F")),
            (("class", 4), face("own", "H")), (NULL, BYTES), (NULL, ("class", 3)), (NULL, face("far", "F")),
        )
        wrong = (
            (("class", 0), ("class", 2)), (("class", 0), ("class", 1)), (("class", 1), face("bank", "F")), (NULL, INT),
            (face("own", "F"), ("class", 0)), (("class", 3), face("own", "F")), (("class", 0), face("bank", "F")),
            (face("own", "F"), face("bank", "F")), (face("own", "F"), face("own", "G")), (INT, BYTES), (BYTES, INT),
            (NOTHING, NOTHING), (NULL, NOTHING), (NOTHING, INT), (INT, NOTHING), (("class", 0), NOTHING),
        )
        for one, other in right:
            self.assertIs(self.package.fits(one, other), True)
        for one, other in wrong:
            self.assertIs(self.package.fits(one, other), False)

    def test_is_known(self):
        for kind in [INT, BYTES] + CLASSES + FACES:
            self.assertIs(self.package.is_known(kind), True)
        for kind in UNKNOWN:
            self.assertIs(self.package.is_known(kind), False, kind)
        for kind in CLASSES + FACES:
            self.assertIs(self.package.is_known(list(kind)), False)
        for value in ANY:
            self.assertIs(self.package.is_known(value), False)

    def test_heads(self):
        heads = self.package.heads
        self.assertEqual(heads("own", "F"), (GO,))
        self.assertEqual(heads("own", "G"), ())
        self.assertEqual(heads("own", "H"), (GO, ASK))
        self.assertEqual(heads("bank", "F"), (ASK,))
        self.assertEqual(heads("bank", "P"), (GO, GO))
        absent = (
            ("far", "F"), ("own", "Z"), ("own", "P"), ("bank", "G"), ("shop", "F"), ("none", "F"), ("F", "own"),
        )
        for package, name in absent:
            self.assertIsNone(heads(package, name))

    def test_other_entries_do_not_matter(self):
        bare = Package(CORE, {name: USED[name] for name in ("bank", "shop")})
        kinds = [INT, BYTES, NOTHING] + CLASSES + FACES + [face("far", "F")]
        for one in kinds:
            self.assertIs(bare.is_known(one), self.package.is_known(one))
            for other in kinds:
                self.assertIs(bare.fits(one, other), self.package.fits(one, other))
        self.assertIsNone(bare.heads("far", "F"))
        self.assertEqual(bare.heads("own", "F"), (GO,))

    def test_without_classes_and_uses(self):
        package = Package(("core", "p", 1, (), (), (), ()), USED)
        self.assertIs(package.is_known(INT), True)
        self.assertIs(package.is_known(("class", 0)), False)
        self.assertIs(package.is_known(face("bank", "F")), False)
        self.assertIs(package.fits(NULL, BYTES), True)

    def test_arguments_stay(self):
        used = deepcopy(USED)
        package = Package(CORE, used)
        package.fits(("class", 2), FACES[0])
        package.is_known(FACES[0])
        package.heads("bank", "P")
        self.assertEqual(used, USED)

    def test_two_packages_do_not_share(self):
        Package(("core", "p", 1, (), (("X", (GO,)),), (row("A", -1),), ()), {})
        self.assertIsNone(self.package.heads("p", "X"))
        self.assertIs(self.package.is_known(("class", 4)), True)


if __name__ == "__main__":
    unittest.main()
