"""Makes source trees of core trees (point 314)."""

from warycard.core import is_core
from warycard.errors import BadTree
from warycard.kinds import NOTHING
from warycard.packages import Package


def source(core, used):
    """Return a source tree of a core tree."""
    if not is_core(core, used):
        raise BadTree()
    _, name, version, uses, faces, classes, applets = core
    naming = Naming(core, used)
    listed = tuple([naming.face(face) for face in faces])
    rows = tuple([naming.row(row) for row in classes])
    return ("package", name, version, uses, listed, rows, tuple([classes[k][0] for k in applets]))


class Naming:
    """Gives names to what has numbers in a core tree."""

    def __init__(self, core, used):
        self._name = core[1]
        self._classes = core[5]
        self._package = Package(core, used)
        # The params and variables of the method, and its first slot that has no name yet.
        self._variables = ()
        self._later = 1

    def face(self, face):
        """Return a face of the source tree."""
        name, heads = face
        return ("face", name, tuple([self._head(head) for head in heads]))

    def row(self, row):
        """Return a class of the source tree."""
        name, parent, faces, fields, _, methods = row
        above = self._class_name(parent) if parent >= 0 else None
        first = len(self._classes[parent][3]) if parent >= 0 else 0
        own = [(self._kind(kind), _field_name(first + place)) for place, kind in enumerate(fields[first:])]
        listed = tuple([self._kind(face) for face in faces])
        return ("class", name, above, listed, tuple(own), tuple([self._method(method) for method in methods]))

    def _class_name(self, k):
        return self._classes[k][0]

    def _kind(self, kind):
        match kind:
            case ("class", k):
                return ("name", self._class_name(k))
            case ("face", package, name):
                return ("name", name) if package == self._name else ("of", package, name)
        return kind[0]

    def _head(self, head):
        name, params, result = head
        pairs = [(self._kind(kind), _slot_name(place)) for place, kind in enumerate(params, start=1)]
        return (name, tuple(pairs), None if result == NOTHING else self._kind(result))

    def _method(self, method):
        self._variables = method[1] + method[3]
        self._later = 1 + len(method[1])
        return ("method",) + self._head(method[:3]) + (self._body(method[4]),)

    def _body(self, body):
        return tuple([self._statement(statement) for statement in body])

    def _statement(self, statement):
        match statement:
            case ("set", slot, e):
                return self._set(slot, e)
            case ("put", e, k, field, f):
                return ("put", self._expression(e), _field_name(field), self._expression(f))
            case ("if", e, body, other):
                return ("if", self._expression(e), self._body(body), self._body(other))
            case ("while", e, body):
                return ("while", self._expression(e), self._body(body))
            case ("try", body, slot, other):
                one = self._body(body)
                self._later = slot + 1
                return ("try", one, _slot_name(slot), self._body(other))
            case ("do", call, _):
                return ("do", self._expression(call))
            case ("return", None):
                return statement
        return (statement[0],) + self._expressions(statement[1:])

    def _set(self, slot, e):
        worth = self._expression(e)
        if slot < self._later:
            return ("set", _slot_name(slot), worth)
        self._later = slot + 1
        return ("var", self._kind(self._variables[slot - 1]), _slot_name(slot), worth)

    def _expressions(self, row):
        return tuple([self._expression(e) for e in row])

    def _expression(self, e):
        match e:
            case ("int", _):
                return e
            case ("slot", slot):
                return ("name", _slot_name(slot)) if slot > 0 else ("this",)
            case ("get", f, _, field):
                return ("get", self._expression(f), _field_name(field))
            case ("callc", f, k, row, given):
                return ("call", self._expression(f), self._classes[k][4][row][0], self._expressions(given))
            case ("callf", f, package, face, number, given):
                name = self._package.heads(package, face)[number][0]
                return ("call", self._expression(f), name, self._expressions(given))
            case ("new", k):
                return ("new", self._class_name(k))
            case ("op", sign, f, g):
                return ("op", sign, self._expression(f), self._expression(g))
            case ("same", f, g):
                return ("op", "==", self._expression(f), self._expression(g))
            case ("is" | "as", f, kind):
                return (e[0], self._expression(f), self._kind(kind))
            case ("seek", kind, text):
                return ("seek", self._kind(kind), text)
        return (e[0],) + self._expressions(e[1:])


def _slot_name(slot):
    return f"v{slot}"


def _field_name(field):
    return f"f{field}"
