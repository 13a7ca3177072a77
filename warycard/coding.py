"""Makes the instructions of a method (points 602 to 606).

The lines that are made are instructions and marks, ("mark", number). A jump has
the number of a mark as its operand, and a handler has three of them.
"""

from warycard.endings import ends
from warycard.kinds import NOTHING
from warycard.nodes import EXPRESSIONS

# The instructions of expressions that are not called like these.
CALLED = {"int": "const", "slot": "load"}
# The instructions behind the expressions of statements that are not called like these.
LAST = {"store": "setat", "return": "returnv"}


class Coder:
    """The lines and the handlers of one method, and what its calls do to the height of the stack."""

    def __init__(self):
        self.lines = []
        self.handlers = []
        self.changes = {}
        self._marks = 0

    def code_method(self, body):
        """Make the lines of a whole method."""
        self._code_body(body)
        if not ends(body):
            self.lines.append(("return",))

    def _new_mark(self):
        self._marks += 1
        return self._marks

    def _put_mark(self, mark):
        self.lines.append(("mark", mark))

    def _code_body(self, body):
        for statement in body:
            self._code_statement(statement)

    def _code_statement(self, statement):
        match statement:
            case ("if", e, body, other):
                self._code_if(e, body, other)
            case ("while", e, body):
                self._code_while(e, body)
            case ("try", body, slot, other):
                self._code_try(body, slot, other)
            case ("do", call, result):
                self._code_call(call, 0 if result == NOTHING else 1)
                if result != NOTHING:
                    self.lines.append(("pop",))
            case ("set", slot, e):
                self._code_value(e)
                self.lines.append(("store", slot))
            case ("put", e, k, field, f):
                self._code_values((e, f))
                self.lines.append(("put", k, field))
            case ("return", None):
                self.lines.append(("return",))
            case _:
                self._code_values(statement[1:])
                self.lines.append((LAST.get(statement[0], statement[0]),))

    def _code_if(self, e, body, other):
        past = self._new_mark()
        behind = self._new_mark()
        self._code_condition(e, False, past)
        self._code_body(body)
        if len(other) > 0 and not ends(body):
            self.lines.append(("jump", behind))
        self._put_mark(past)
        self._code_body(other)
        self._put_mark(behind)

    def _code_while(self, e, body):
        again = self._new_mark()
        behind = self._new_mark()
        self._put_mark(again)
        self.lines.append(("step",))
        self._code_condition(e, False, behind)
        self._code_body(body)
        if not ends(body):
            self.lines.append(("jump", again))
        self._put_mark(behind)

    def _code_try(self, body, slot, other):
        place = len(self.lines)
        begin = self._new_mark()
        self._put_mark(begin)
        self._code_body(body)
        if all([line[0] == "mark" for line in self.lines[place:]]):
            del self.lines[place:]
            return
        end = self._new_mark()
        at = self._new_mark()
        behind = self._new_mark()
        self._put_mark(end)
        self.handlers.append((begin, end, at))
        if not ends(body):
            self.lines.append(("jump", behind))
        self._put_mark(at)
        self.lines.append(("store", slot))
        self._code_body(other)
        self._put_mark(behind)

    def _code_values(self, row):
        for e in row:
            self._code_value(e)

    def _code_value(self, e):
        """Make the lines that put the value of an expression on the stack."""
        word = e[0]
        if word in ("and", "or"):
            self._code_choice(e)
        elif word in ("callc", "callf"):
            self._code_call(e, 1)
        else:
            operands = []
            for item, part in zip(e[1:], EXPRESSIONS[word]):
                if part == "expression":
                    self._code_value(item)
                else:
                    operands.append(item)
            self.lines.append((CALLED.get(word, word),) + tuple(operands))

    def _code_call(self, e, many):
        """Make the lines of a call that puts so many values on the stack."""
        given = e[-1]
        self._code_value(e[1])
        self._code_values(given)
        call = (e[0],) + e[2:-1]
        self.changes[call] = many - 1 - len(given)
        self.lines.append(call)

    def _code_choice(self, e):
        past = self._new_mark()
        behind = self._new_mark()
        self._code_condition(e, False, past)
        self.lines.append(("const", 1))
        self.lines.append(("jump", behind))
        self._put_mark(past)
        self.lines.append(("const", 0))
        self._put_mark(behind)

    def _code_condition(self, e, wanted, mark):
        """Make the lines that jump to a mark if an expression has the wanted truth."""
        match e:
            case ("not", f):
                self._code_condition(f, not wanted, mark)
            case ("and" | "or", f, g):
                # The first side alone decides if it is false for "and", or true for "or".
                alone = e[0] == "or"
                if alone == wanted:
                    self._code_condition(f, wanted, mark)
                    self._code_condition(g, wanted, mark)
                else:
                    past = self._new_mark()
                    self._code_condition(f, alone, past)
                    self._code_condition(g, wanted, mark)
                    self._put_mark(past)
            case _:
                self._code_value(e)
                self.lines.append(("jumpif" if wanted else "jumpnot", mark))
