"""Makes core trees simpler whose conditions and operations are constant (point 608)."""

from warycard.endings import ends
from warycard.nodes import EXPRESSIONS
from warycard.words import op, wrap

# A step of a "while" of which nothing else is left.
STEP = ("step",)


def fold_body(body):
    """Return the simpler statements of a body, up to the first one that ends it."""
    found = []
    for statement in body:
        found.extend(_fold_statement(statement))
        if ends(found):
            break
    return tuple(found)


def _fold_statement(statement):
    """Return the tuple of the statements that take the place of one."""
    match statement:
        case ("if", e, body, other):
            return _fold_if(fold(e), body, other)
        case ("while", e, body):
            return _fold_while(fold(e), fold_body(body))
        case ("try", body, slot, other):
            return (("try", fold_body(body), slot, fold_body(other)),)
        case ("set", slot, e):
            return (("set", slot, fold(e)),)
        case ("put", e, k, field, f):
            return (("put", fold(e), k, field, fold(f)),)
        case ("do", e, result):
            return (("do", fold(e), result),)
        case ("return", None):
            return (statement,)
    return ((statement[0],) + _fold_all(statement[1:]),)


def _fold_if(test, body, other):
    if test[0] != "int":
        return (("if", test, fold_body(body), fold_body(other)),)
    return fold_body(body if test[1] != 0 else other)


def _fold_while(test, body):
    if test == ("int", 0):
        return (STEP,)
    if test[0] == "int" and ends(body):
        return (STEP,) + body
    return (("while", test, body),)


def _fold_all(row):
    return tuple([fold(e) for e in row])


def fold(e):
    """Return a simpler expression with the same value and the same faults."""
    parts = EXPRESSIONS[e[0]]
    row = [_fold_part(item, part) for item, part in zip(e[1:], parts)]
    simple = (e[0],) + tuple(row)
    match simple:
        case ("neg", ("int", n)):
            return ("int", wrap(-n))
        case ("not", ("int", n)):
            return ("int", int(n == 0))
        case ("op", sign, ("int", left), ("int", right)):
            result = op(sign, left, right)
            return simple if result is None else ("int", result)
        case ("and" | "or", ("int", left), right):
            return _fold_choice(simple, left, right)
    return simple


def _fold_part(item, part):
    match part:
        case "expression":
            return fold(item)
        case "args":
            return _fold_all(item)
    return item


def _fold_choice(simple, left, right):
    """Return a simpler "and" or "or" whose left side is constant."""
    # The left side alone decides an "and" if it is 0, and an "or" if it is not.
    if (left == 0) == (simple[0] == "and"):
        return ("int", int(left != 0))
    return ("int", int(right[1] != 0)) if right[0] == "int" else simple
