"""The core trees on a plain card (points 404, 408 and 410)."""

from warycard.kinds import INT
from warycard.tables import first_with


class Shelf:
    """The packages that were loaded, by their names."""

    def __init__(self):
        self._cores = {}

    def versions(self):
        """Return the versions of the packages, by their names."""
        return {name: core[2] for name, core in self._cores.items()}

    def put(self, core):
        """Put a package on the shelf."""
        self._cores[core[1]] = core

    def copy(self):
        """Return another shelf with the same packages."""
        other = Shelf()
        other._cores = dict(self._cores)
        return other

    def applet_form(self, package, name):
        """Return the kind of the objects of an applet class, or None if there is no such class."""
        if not isinstance(package, str) or not isinstance(name, str) or package not in self._cores:
            return None
        core = self._cores[package]
        for k in core[6]:
            if core[5][k][0] == name:
                return ("class", package, k)
        return None

    def _class_row(self, form):
        """Return the class of objects of a kind."""
        _, package, k = form
        return self._cores[package][5][k]

    def class_name(self, form):
        """Return the name of the class of objects of a kind."""
        return self._class_row(form)[0]

    def field_kinds(self, form):
        """Return the types of the fields of objects of a kind."""
        return self._class_row(form)[3]

    def table(self, form):
        """Return the table of the class of objects of a kind."""
        return self._class_row(form)[4]

    def method(self, form, row):
        """Return the method of a row of a table."""
        _, _, _, k, number = row
        return self._cores[form[1]][5][k][5][number]

    def named_row(self, form, name):
        """Return the row of a table that has a name."""
        return first_with(self.table(form), name)

    def head_name(self, package, face, number):
        """Return the name of a head of a face."""
        _, heads = first_with(self._cores[package][4], face)
        return heads[number][0]

    def is_of(self, form, package, kind):
        """Tell whether objects of a kind are of a type, as the code of a package writes it."""
        if kind[0] == "class":
            wanted = ("class", package, kind[1])
            return wanted in self._ancestors(form)
        return any([kind in self._class_row(above)[2] for above in self._ancestors(form)])

    def _ancestors(self, form):
        """Return the kinds of a class, of its parent, of the parent of its parent, and so on."""
        _, package, k = form
        found = []
        while k >= 0:
            found.append(("class", package, k))
            k = self._cores[package][5][k][1]
        return found


def first_values(kinds):
    """Return the values that fields and variables of some types have at first."""
    return [0 if kind == INT else None for kind in kinds]
