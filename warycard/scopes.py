"""What the names of a source tree mean (point 312)."""

from warycard.asking import ask
from warycard.kinds import BYTES, INT, NOTHING


class Scope:
    """The names of a package, of its faces, and of its classes in the order of their numbers."""

    def __init__(self, package, faces, classes):
        self._package = package
        self._faces = faces
        self._classes = classes

    def class_number(self, name):
        """Return the number of the class with a name."""
        ask(name in self._classes, "there is no such class")
        return self._classes.index(name)

    def kind(self, named):
        """Return the type that a type of the source tree means."""
        match named:
            case "int":
                return INT
            case "bytes":
                return BYTES
            case ("of", package, name):
                ask(package != self._package, "the package itself is named ahead of a face")
                return ("face", package, name)
        word = named[1]
        if word in self._classes:
            return ("class", self._classes.index(word))
        ask(word in self._faces, "there is no such class or face")
        return ("face", self._package, word)

    def head(self, name, params, result):
        """Return a head, with types in the place of their names."""
        kinds = [self.kind(kind) for kind, _ in params]
        return (name, tuple(kinds), NOTHING if result is None else self.kind(result))
