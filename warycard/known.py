"""What the parts of a module may name (point 501)."""

from warycard.limits import MOST_ITEMS
from warycard.shapes import begins, is_tuple
from warycard.texts import is_integer, is_name


class Known:
    """The faces, the used packages and the classes of a module."""

    def __init__(self, package, used, faces, classes):
        self._package = package
        # The names of the used packages.
        self._used = used
        # The numbers of the heads of the module's own faces, by their names.
        self._faces = faces
        # The number of the classes.
        self._many = classes

    def is_class_number(self, value):
        """Tell whether a value is the number of a class."""
        return is_integer(value, 0, self._many - 1)

    def most_heads(self, package, face):
        """Return the number of the heads that a face may have, or -1 if there is no such face; for any values."""
        if not is_name(package) or not is_name(face):
            return -1
        if package in self._used:
            return MOST_ITEMS
        return self._faces.get(face, -1) if package == self._package else -1

    def is_face(self, value):
        """Tell whether a value is the kind of a face."""
        return begins(value, "face", 3) and self.most_heads(value[1], value[2]) >= 0

    def is_object(self, value):
        """Tell whether a value is the kind of a class or of a face."""
        return self.is_face(value) or begins(value, "class", 2) and self.is_class_number(value[1])

    def is_kind(self, value):
        """Tell whether a value is a kind."""
        return self.is_object(value) or begins(value, "int", 1) or begins(value, "bytes", 1)

    def are_kinds(self, value):
        """Tell whether a value is a list of kinds."""
        return is_list(value) and all([self.is_kind(item) for item in value])

    def is_head(self, value):
        """Tell whether a value is a tuple of a name, a list of kinds and a result."""
        if not is_tuple(value, 3) or not is_name(value[0]) or not self.are_kinds(value[1]):
            return False
        return self.is_kind(value[2]) or begins(value[2], "nothing", 1)


def is_list(value):
    """Tell whether a value is a tuple with as many items as a list may have."""
    return isinstance(value, tuple) and len(value) <= MOST_ITEMS
