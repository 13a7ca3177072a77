"""Reads statements (points 207 and 210)."""

from warycard.cursor import read_kind
from warycard.expressions import goes_on, read_between, read_expression, read_start, read_suffix


def read_body(cursor):
    """Read the statements in a pair of braces."""
    found = []
    cursor.expect("{")
    while cursor.word() != "}":
        found.append(_read_statement(cursor))
    cursor.expect("}")
    return tuple(found)


def _read_statement(cursor):
    match cursor.word():
        case "int" | "bytes":
            return _read_variable(cursor, read_kind(cursor))
        case "if":
            return _read_if(cursor)
        case "while":
            return _read_while(cursor)
        case "try":
            return _read_try(cursor)
        case "return":
            return _read_return(cursor)
        case "throw":
            cursor.expect("throw")
            return ("throw", _read_last(cursor))
        case "begin" | "commit" | "abort":
            return _read_single(cursor)
    return _read_other(cursor)


def _read_last(cursor):
    """Read the expression that ends a statement."""
    value = read_expression(cursor)
    cursor.expect(";")
    return value


def _read_variable(cursor, kind):
    name = cursor.value("name")
    cursor.expect("=")
    return ("var", kind, name, _read_last(cursor))


def _read_if(cursor):
    cursor.expect("if")
    test = read_between(cursor, "(", ")")
    body = read_body(cursor)
    other = read_body(cursor) if cursor.skips("else") else ()
    return ("if", test, body, other)


def _read_while(cursor):
    cursor.expect("while")
    test = read_between(cursor, "(", ")")
    return ("while", test, read_body(cursor))


def _read_try(cursor):
    cursor.expect("try")
    body = read_body(cursor)
    cursor.expect("catch")
    cursor.expect("(")
    name = cursor.value("name")
    cursor.expect(")")
    return ("try", body, name, read_body(cursor))


def _read_return(cursor):
    cursor.expect("return")
    return ("return", None if cursor.skips(";") else _read_last(cursor))


def _read_single(cursor):
    word = cursor.take()
    cursor.expect(";")
    return (word,)


def _read_other(cursor):
    """Read a statement that begins with an expression of the rank 12, or with a named type."""
    bracketed = cursor.word() == "("
    value = read_start(cursor)
    # Brackets around the whole of what stands on the left of "=" are not allowed.
    whole = bracketed
    while goes_on(cursor):
        value = read_suffix(cursor, value)
        whole = False
    if cursor.sees("name") and not bracketed:
        return _read_variable(cursor, _as_kind(cursor, value))
    if cursor.word() == "=" and not whole:
        return _read_change(cursor, value)
    if value[0] != "call":
        cursor.refuse()
    cursor.expect(";")
    return ("do", value)


def _as_kind(cursor, value):
    """Return the named type that was read as an expression."""
    if value[0] == "get" and value[1][0] == "name":
        return ("of", value[1][1], value[2])
    if value[0] != "name":
        cursor.refuse()
    return value


def _read_change(cursor, value):
    if value[0] not in ("name", "get", "at"):
        cursor.refuse()
    cursor.expect("=")
    worth = _read_last(cursor)
    match value:
        case ("name", name):
            return ("set", name, worth)
        case ("get", left, name):
            return ("put", left, name, worth)
    return ("store", value[1], value[2], worth)
