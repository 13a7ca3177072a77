"""Makes the body of a method of a core tree (point 312)."""

from warycard.asking import ask
from warycard.errors import BadProgram
from warycard.kinds import INT, Kinds
from warycard.tables import first_with


class Body:
    """The slots of one method, and the names of those that are open."""

    def __init__(self, scope, package, outlines, k, params):
        self._scope = scope
        self._package = package
        self._outlines = outlines
        self._slots = [("class", k)]
        self._numbers = {}
        # The types of the slots are looked up while slots are added.
        self._kinds = Kinds(package, [row[0] for row in outlines], self._slots)
        for kind, name in params:
            self._add_slot(name, scope.kind(kind))

    def slot_kinds(self):
        """Return the types of all slots that were added."""
        return tuple(self._slots)

    def statements(self, body):
        """Return the statements of a body; the slots that are added in it are closed behind it."""
        before = len(self._slots)
        found = tuple([self._statement(statement) for statement in body])
        self._numbers = {name: slot for name, slot in self._numbers.items() if slot < before}
        return found

    def _add_slot(self, name, kind):
        """Open the next slot, and return its number."""
        ask(name not in self._numbers, "a variable has the name of one that is open")
        slot = len(self._slots)
        self._slots.append(kind)
        self._numbers[name] = slot
        return slot

    def _slot(self, name):
        ask(name in self._numbers, "there is no such variable")
        return self._numbers[name]

    def _statement(self, statement):
        match statement:
            case ("var", kind, name, e):
                worth = self._expression(e)
                return ("set", self._add_slot(name, self._scope.kind(kind)), worth)
            case ("set", name, e):
                return ("set", self._slot(name), self._expression(e))
            case ("put", e, name, f):
                owner, k, field = self._field(e, name)
                return ("put", owner, k, field, self._expression(f))
            case ("if", e, body, other):
                return ("if", self._expression(e), self.statements(body), self.statements(other))
            case ("while", e, body):
                return ("while", self._expression(e), self.statements(body))
            case ("try", body, name, other):
                return self._try(body, name, other)
            case ("do", e):
                call = self._expression(e)
                return ("do", call, self._kinds.kind_of(call))
            case ("return", None):
                return statement
        return self._all_parts(statement)

    def _try(self, body, name, other):
        one = self.statements(body)
        slot = self._add_slot(name, INT)
        two = self.statements(other)
        del self._numbers[name]
        return ("try", one, slot, two)

    def _all_parts(self, node):
        """Return a statement or an expression behind whose word all parts are expressions."""
        return (node[0],) + self._expressions(node[1:])

    def _expressions(self, row):
        return tuple([self._expression(e) for e in row])

    def _expression(self, e):
        match e:
            case ("int", _):
                return e
            case ("this",):
                return ("slot", 0)
            case ("name", name):
                return ("slot", self._slot(name))
            case ("op", sign, f, g):
                return self._op(sign, self._expression(f), self._expression(g))
            case ("is" | "as", f, kind):
                return (e[0], self._expression(f), self._scope.kind(kind))
            case ("get", f, name):
                owner, k, field = self._field(f, name)
                return ("get", owner, k, field)
            case ("call", f, name, given):
                return self._call(self._expression(f), name, self._expressions(given))
            case ("new", name):
                return ("new", self._scope.class_number(name))
            case ("seek", kind, text):
                return ("seek", self._scope.kind(kind), text)
        return self._all_parts(e)

    def _op(self, sign, left, right):
        if self._kinds.kind_of(left) == INT:
            return ("op", sign, left, right)
        same = ("same", left, right)
        match sign:
            case "==":
                return same
            case "!=":
                return ("not", same)
        return ("op", sign, left, right)

    def _field(self, e, name):
        """Return the expression ahead of a dot, the number of its class, and that of the field."""
        owner = self._expression(e)
        kind = self._kinds.kind_of(owner)
        ask(kind[0] == "class", "the value ahead of a field has no fields")
        names = self._outlines[kind[1]][1]
        ask(name in names, "there is no such field")
        return owner, kind[1], names.index(name)

    def _call(self, owner, name, given):
        kind = self._kinds.kind_of(owner)
        match kind:
            case ("class", k):
                table = self._outlines[k][0][4]
                return ("callc", owner, k, _place(table, name), given)
            case ("face", package, face):
                heads = self._package.heads(package, face)
                ask(heads is not None, "a face is not known")
                return ("callf", owner, package, face, _place(heads, name), given)
        raise BadProgram("the value ahead of a call has no methods")


def _place(rows, name):
    row = first_with(rows, name)
    ask(row is not None, "there is no such method")
    return rows.index(row)
