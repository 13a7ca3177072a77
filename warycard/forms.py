"""Tells source trees from other values (points 206 to 208)."""

from warycard.limits import MOST_INT, MOST_NESTED, MOST_VERSION
from warycard.shapes import begins, first, is_row, is_tuple
from warycard.texts import is_integer, is_text
from warycard.tokens import is_free_name
from warycard.words import SIGNS

# What follows behind the first item of a statement, and of an expression.
STATEMENTS = {
    "var": ("kind", "name", "expression"),
    "set": ("name", "expression"),
    "put": ("expression", "name", "expression"),
    "store": ("expression", "expression", "expression"),
    "if": ("expression", "body", "body"),
    "while": ("expression", "body"),
    "return": ("choice",),
    "throw": ("expression",),
    "try": ("body", "name", "body"),
    "do": ("call",),
    "begin": (),
    "commit": (),
    "abort": (),
}
EXPRESSIONS = {
    "or": ("expression", "expression"),
    "and": ("expression", "expression"),
    "not": ("expression",),
    "op": ("sign", "expression", "expression"),
    "is": ("expression", "named"),
    "neg": ("expression",),
    "get": ("expression", "name"),
    "size": ("expression",),
    "at": ("expression", "expression"),
    "call": ("expression", "name", "args"),
    "as": ("expression", "named"),
    "int": ("number",),
    "null": (),
    "this": (),
    "buffer": (),
    "name": ("name",),
    "new": ("name",),
    "bytes": ("expression",),
    "temp": ("expression",),
    "seek": ("named", "text"),
}


def is_tree(value):
    """Tell whether a value is a source tree."""
    if not begins(value, "package", 7):
        return False
    _, name, version, uses, faces, classes, applets = value
    return (
        is_free_name(name)
        and is_integer(version, 0, MOST_VERSION)
        and is_row(uses, _is_use)
        and is_row(faces, _is_face)
        and is_row(classes, _is_class)
        and is_row(applets, is_free_name)
    )


def _is_use(value):
    return is_tuple(value, 2) and is_free_name(value[0]) and is_integer(value[1], 0, MOST_VERSION)


def _is_face(value):
    return begins(value, "face", 3) and is_free_name(value[1]) and is_row(value[2], _is_head)


def _is_class(value):
    if not begins(value, "class", 6):
        return False
    _, name, parent, faces, fields, methods = value
    return (
        is_free_name(name)
        and (parent is None or is_free_name(parent))
        and is_row(faces, _is_named)
        and is_row(fields, _is_pair)
        and is_row(methods, _is_method)
    )


def _is_method(value):
    return begins(value, "method", 5) and _is_head(value[1:4]) and _is_body(value[4], 1)


def _is_head(value):
    if not is_tuple(value, 3):
        return False
    name, params, result = value
    return is_free_name(name) and is_row(params, _is_pair) and (result is None or _is_kind(result))


def _is_pair(value):
    return is_tuple(value, 2) and _is_kind(value[0]) and is_free_name(value[1])


def _is_kind(value):
    if isinstance(value, str):
        return value in ("int", "bytes")
    return _is_named(value)


def _is_named(value):
    if begins(value, "name", 2):
        return is_free_name(value[1])
    return begins(value, "of", 3) and is_free_name(value[1]) and is_free_name(value[2])


def _is_body(value, depth):
    return isinstance(value, tuple) and all([_is_statement(item, depth) for item in value])


def _is_args(value, depth):
    return isinstance(value, tuple) and all([_is_expression(item, depth) for item in value])


def _is_statement(value, depth):
    return _has_parts(value, STATEMENTS.get(first(value)), depth)


def _is_expression(value, depth):
    return _has_parts(value, EXPRESSIONS.get(first(value)), depth)


def _has_parts(value, parts, depth):
    if parts is None or len(value) != 1 + len(parts) or depth > MOST_NESTED:
        return False
    return all([_is_part(item, part, depth + 1) for item, part in zip(value[1:], parts)])


def _is_part(value, part, depth):
    match part:
        case "expression":
            return _is_expression(value, depth)
        case "body":
            return _is_body(value, depth)
        case "args":
            return _is_args(value, depth)
        case "choice":
            return value is None or _is_expression(value, depth)
        case "call":
            return first(value) == "call" and _is_expression(value, depth)
    return _is_leaf(value, part)


def _is_leaf(value, part):
    match part:
        case "name":
            return is_free_name(value)
        case "kind":
            return _is_kind(value)
        case "named":
            return _is_named(value)
        case "number":
            return is_integer(value, 0, MOST_INT)
        case "text":
            return is_text(value)
    return isinstance(value, str) and value in SIGNS
