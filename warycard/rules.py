"""The rules for the body of a method of a core tree (points 307 to 310)."""

from warycard.asking import ask
from warycard.endings import ends, ends_here
from warycard.kinds import BYTES, INT, NOTHING, NULL, Kinds


class Rules:
    """Goes through the body of one method, and raises BadProgram for the first broken rule.

    The body has the right form, and the types of the slots are known.
    """

    def __init__(self, package, classes, k, method):
        _, params, result, variables, _ = method
        self._package = package
        self._classes = classes
        self._slots = (("class", k),) + params + variables
        self._kinds = Kinds(package, classes, self._slots)
        self._result = result
        # The slots that are open, and the first one that has not been opened yet.
        self._usable = {slot: True for slot in range(1 + len(params))}
        self._later = 1 + len(params)

    def ask_method(self, body):
        """Ask that a body keeps the rules."""
        self._ask_body(body)
        ask(self._later == len(self._slots), "a variable is never opened")
        ask(self._result == NOTHING or ends(body), "a method with a result does not end")

    def _ask_body(self, body):
        before = self._later
        for statement in body:
            self._ask_statement(statement)
        ask(not any([ends_here(statement) for statement in body[:-1]]), "a statement stands behind one that ends")
        for slot in range(before, self._later):
            self._usable[slot] = False

    def _is_usable(self, slot):
        return self._usable.get(slot, False)

    def _use_later(self):
        """Open the next slot."""
        ask(self._later < len(self._slots), "there is no such variable")
        self._usable[self._later] = True
        self._later += 1

    def _ask_statement(self, statement):
        match statement:
            case ("set", slot, e):
                self._ask_set(slot, e)
            case ("put", e, k, field, f):
                self._ask_fits(f, self._field_kind(e, k, field))
            case ("store", e, f, g):
                self._ask_fits(e, BYTES)
                self._ask_integers((f, g))
            case ("if", e, body, other):
                self._ask_integers((e,))
                self._ask_body(body)
                self._ask_body(other)
            case ("while", e, body):
                self._ask_integers((e,))
                self._ask_body(body)
            case ("try", body, slot, other):
                self._ask_try(body, slot, other)
            case _:
                self._ask_simple(statement)

    def _ask_simple(self, statement):
        match statement:
            case ("return", None):
                ask(self._result == NOTHING, "a result is missing")
            case ("return", e):
                ask(self._result != NOTHING, "the method has no result")
                self._ask_fits(e, self._result)
            case ("throw", e):
                self._ask_integers((e,))
            case ("do", call, result):
                self._ask_parts(call)
                ask(self._kinds.kind_of(call) == result, "the result of a call is another one")

    def _ask_set(self, slot, e):
        kind = self._value_kind(e)
        if slot == self._later:
            self._use_later()
        ask(slot != 0 and self._is_usable(slot), "a variable that is not open is set")
        ask(self._package.fits(kind, self._slots[slot]), "a value does not fit its variable")

    def _ask_try(self, body, slot, other):
        self._ask_body(body)
        ask(slot == self._later, "the variable of a try is not the next one")
        self._use_later()
        ask(self._slots[slot] == INT, "the variable of a try is no int")
        self._ask_body(other)
        self._usable[slot] = False

    def _ask_fits(self, e, kind):
        """Ask that an expression fits a type."""
        ask(self._package.fits(self._value_kind(e), kind), "a value does not fit its type")

    def _ask_integers(self, row):
        for e in row:
            ask(self._value_kind(e) == INT, "a value is no int")

    def _value_kind(self, e):
        """Return the type of an expression that keeps the rules and has a value."""
        self._ask_parts(e)
        kind = self._kinds.kind_of(e)
        ask(kind != NOTHING, "a call without a result is no value")
        return kind

    def _field_kind(self, e, k, field):
        ask(self._value_kind(e) == ("class", k), "the value ahead of a field has another class")
        fields = self._classes[k][3]
        ask(field < len(fields), "there is no such field")
        return fields[field]

    def _ask_parts(self, e):
        """Ask that the parts of an expression keep the rules, and fit it."""
        match e:
            case ("slot", slot):
                ask(self._is_usable(slot), "a variable that is not open is read")
            case ("get", f, k, field):
                self._field_kind(f, k, field)
            case ("at", f, place):
                self._ask_fits(f, BYTES)
                self._ask_integers((place,))
            case ("size", f):
                self._ask_fits(f, BYTES)
            case ("callc", f, k, row, given):
                ask(self._value_kind(f) == ("class", k), "the value ahead of a call has another class")
                ask(row < len(self._classes[k][4]), "there is no such row")
                self._ask_arguments(e, given)
            case ("callf", f, package, face, number, given):
                ask(self._value_kind(f) == ("face", package, face), "the value ahead of a call has another face")
                heads = self._package.heads(package, face)
                ask(heads is not None and number < len(heads), "there is no such head")
                self._ask_arguments(e, given)
            case ("new", k):
                ask(self._package.is_known(("class", k)), "there is no such class")
            case ("same", f, g):
                self._ask_same(self._value_kind(f), self._value_kind(g))
            case ("is" | "as", f, kind):
                ask(self._value_kind(f)[0] in ("class", "face", "null"), "a value is no object")
                self._ask_known(kind, ("class", "face"))
            case ("seek", kind, _):
                self._ask_known(kind, ("face",))
            case ("op", _, f, g):
                self._ask_integers((f, g))
            case ("bytes" | "temp" | "neg" | "not" | "and" | "or", *row):
                self._ask_integers(row)

    def _ask_known(self, kind, words):
        ask(self._package.is_known(kind) and kind[0] in words, "a type is not known, or has the wrong kind")

    def _ask_same(self, left, right):
        sides = (left, right)
        holds = sides == (BYTES, BYTES) or all([kind[0] in ("class", "face") for kind in sides])
        if NULL in sides:
            holds = INT not in sides
        ask(holds, "two values cannot be the same")

    def _ask_arguments(self, call, given):
        _, params, _ = self._kinds.head_of(call)
        ask(len(given) == len(params), "a call has too many or too few arguments")
        for arg, param in zip(given, params):
            self._ask_fits(arg, param)
