"""What the memory is asked for while a card runs: applets by their names, and the references of objects.

Both are handed to a heap or a machine, which call them like functions.
"""

from warycard.kinds import INT


class Seeker:
    """Finds the objects of applets."""

    def __init__(self, names):
        self._applets = names

    def __call__(self, name):
        """Return the number of the object of the applet with a name, or 0."""
        for _, number, other in self._applets.rows():
            if other == name:
                return number
        return 0


class Places:
    """Tells at which values the objects of classes refer to others."""

    def __init__(self, world):
        self._world = world

    def __call__(self, kind):
        """Return the places of the fields of a class that are no integers."""
        return [place for place, one in enumerate(self._world.fields(kind)) if one != INT]
