"""The types of a core tree (points 301 to 303)."""

from warycard.texts import is_integer


class Package:
    """The types of a core tree, with the faces of the packages that it uses."""

    def __init__(self, core, used):
        self._count = len(core[5])
        self._faces = _named_faces(core, used)
        self._above = _types_above(core[5])

    def fits(self, one, other):
        """Tell whether a value of the type one fits the type other."""
        if one == other:
            return one != ("nothing",)
        if one == ("null",):
            return other[0] in ("bytes", "class", "face")
        return other in self._above.get(one, [])

    def is_known(self, kind):
        """Tell whether a type is known."""
        if not isinstance(kind, tuple) or len(kind) == 0 or not isinstance(kind[0], str):
            return False
        if kind[0] == "class":
            return len(kind) == 2 and is_integer(kind[1], 0, self._count - 1)
        if kind[0] == "face":
            return len(kind) == 3 and self._is_face(kind[1], kind[2])
        return kind in (("int",), ("bytes",))

    def heads(self, package, face):
        """Return the heads of a face, or None if the face is not known."""
        return self._faces.get((package, face))

    def _is_face(self, package, face):
        return isinstance(package, str) and isinstance(face, str) and (package, face) in self._faces


def _named_faces(core, used):
    """Return the heads of all known faces, by the names of the package and of the face."""
    found = {}
    for package, _ in core[3]:
        if package in used:
            for face, heads in used[package][1]:
                found[(package, face)] = heads
    for face, heads in core[4]:
        found[(core[1], face)] = heads
    return found


def _types_above(classes):
    """Return the other types that a value of each class fits, by the type of the class."""
    found = {}
    for k, row in enumerate(classes):
        parent = row[1]
        above = list(row[2])
        # A parent has a smaller number, so what is above it is known already.
        if parent >= 0:
            above.append(("class", parent))
            above.extend(found[("class", parent)])
        found[("class", k)] = above
    return found
