"""The modules of a card, and what their names refer to (points 700 to 706)."""

from warycard.errors import BadLink
from warycard.kinds import NOTHING, NULL
from warycard.tables import first_with

# The rows that the table of an applet's class has.
APPLET_HEADS = (("made", (("int",),), ("nothing",)), ("process", (("int",),), ("int",)))


class World:
    """The modules of the packages that were added."""

    def __init__(self):
        # The modules and the numbers of their first classes, by the names of the packages.
        self._modules = {}
        self._starts = {}
        # The package and the number there of each class.
        self._origins = []

    def add(self, module):
        """Add a module, or raise BadLink if it names something that is not there."""
        _, name, _, uses, faces, classes, _, applets = module
        _ask(name not in self._modules)
        for package, version in uses:
            _ask(package in self._modules and self._modules[package][2] == version)
        for kind in _named_kinds(module):
            if kind[0] == "face" and kind[1] != name:
                _ask(self.face(kind[1], kind[2]) is not None)
        for k, row in enumerate(classes):
            for _, package, word in _faces_of(classes, k):
                heads = faces if package == name else self._modules[package][4]
                _ask(_has_heads(row[4], first_with(heads, word)[1]))
        _ask(all([_has_heads(classes[k][4], APPLET_HEADS) for k in applets]))
        self._modules[name] = module
        self._starts[name] = len(self._origins)
        for k, _ in enumerate(classes):
            self._origins.append((name, k))

    def names(self):
        """Return the names of the packages in the order of adding."""
        return list(self._modules)

    def module(self, name):
        """Return the module of a package, or raise BadLink."""
        _ask(name in self._modules)
        return self._modules[name]

    def face(self, package, name):
        """Return the heads of a face, or None."""
        if package not in self._modules:
            return None
        found = first_with(self._modules[package][4], name)
        return None if found is None else found[1]

    def count(self):
        """Return the number of all classes."""
        return len(self._origins)

    def number(self, package, k):
        """Return the number of a class of a package among all classes."""
        return self._starts[package] + k

    def package(self, g):
        """Return the name of the package of a class."""
        return self._origins[g][0]

    def own(self, g):
        """Return the number that a class has in its module."""
        return self._origins[g][1]

    def fields(self, g):
        """Return the types of the fields of a class."""
        return self._class_of(g)[3]

    def method(self, g, row):
        """Return the number of the method in a row of a class."""
        return self._class_of(g)[4][row][3]

    def row(self, g, package, face, number):
        """Return the place of the row for a head of a face, or -1 if the class has not this face."""
        if not self.is_kind(g, package, ("face", package, face)):
            return -1
        head = self.face(package, face)[number]
        names = [line[0] for line in self._class_of(g)[4]]
        return names.index(head[0])

    def is_kind(self, g, package, kind):
        """Tell whether a class is of a kind, as a package writes it."""
        home, k = self._origins[g]
        classes = self._modules[home][5]
        if kind[0] == "class":
            return home == package and kind[1] in _ancestors(classes, k)
        return kind[0] == "face" and kind in _faces_of(classes, k)

    def fits(self, package, one, other):
        """Tell whether a value of the type one fits the type other, as a package writes them."""
        if one == other:
            return one != NOTHING
        if one == NULL:
            return other[0] in ("bytes", "class", "face")
        return one[0] == "class" and self.is_kind(self.number(package, one[1]), package, other)

    def applet(self, package, name):
        """Return the number of an applet's class among all classes, or -1."""
        if package not in self._modules:
            return -1
        module = self._modules[package]
        for k in module[7]:
            if module[5][k][0] == name:
                return self.number(package, k)
        return -1

    def _class_of(self, g):
        home, k = self._origins[g]
        return self._modules[home][5][k]


def _ask(holds):
    if not holds:
        raise BadLink()


def _ancestors(classes, k):
    """Return the numbers of a class, of its parent, of the parent of its parent, and so on."""
    found = []
    while k >= 0:
        found.append(k)
        k = classes[k][1]
    return found


def _faces_of(classes, k):
    """Return the faces that a class has."""
    found = []
    for above in _ancestors(classes, k):
        found.extend(classes[above][2])
    return found


def _has_heads(rows, heads):
    """Tell whether a table has rows for all of some heads."""
    found = [row[:3] for row in rows]
    return all([head in found for head in heads])


def _named_kinds(module):
    """Return the kinds that stand in the faces, the classes and the methods of a module, but not in its code."""
    _, _, _, _, faces, classes, methods, _ = module
    found = []
    heads = []
    for _, own in faces:
        heads.extend(own)
    for _, _, listed, fields, rows in classes:
        found.extend(listed + fields)
        heads.extend([row[:3] for row in rows])
    for method in methods:
        found.extend(method[4])
        heads.append(method[1:4])
    for _, params, result in heads:
        found.extend(params + (result,))
    return found
