"""The form of the statements and expressions of core trees (points 307 and 311)."""

from warycard.limits import MOST_INT, MOST_NESTED, MOST_NODES
from warycard.shapes import first
from warycard.texts import is_integer, is_text
from warycard.words import SIGNS

# What follows behind the first item of a statement, and of an expression.
STATEMENTS = {
    "set": ("number", "expression"),
    "put": ("expression", "number", "number", "expression"),
    "store": ("expression", "expression", "expression"),
    "if": ("expression", "body", "body"),
    "while": ("expression", "body"),
    "return": ("choice",),
    "throw": ("expression",),
    "try": ("body", "number", "body"),
    "do": ("call", "kind"),
    "begin": (),
    "commit": (),
    "abort": (),
}
EXPRESSIONS = {
    "int": ("number",),
    "null": (),
    "buffer": (),
    "slot": ("number",),
    "get": ("expression", "number", "number"),
    "at": ("expression", "expression"),
    "size": ("expression",),
    "callc": ("expression", "number", "number", "args"),
    "callf": ("expression", "string", "string", "number", "args"),
    "new": ("number",),
    "bytes": ("expression",),
    "temp": ("expression",),
    "neg": ("expression",),
    "not": ("expression",),
    "op": ("sign", "expression", "expression"),
    "and": ("expression", "expression"),
    "or": ("expression", "expression"),
    "same": ("expression", "expression"),
    "is": ("expression", "kind"),
    "as": ("expression", "kind"),
    "seek": ("kind", "text"),
}


def is_body(value):
    """Tell whether a value has the form of the body of a method, and is neither too deep nor too large."""
    return Nodes().is_body(value, 1)


def has_kind_form(value):
    """Tell whether a value is a tuple of strings and integers, as the types are."""
    return isinstance(value, tuple) and all([_is_string(item) or _is_number(item) for item in value])


def _is_string(value):
    return isinstance(value, str)


def _is_number(value):
    # No number of a core tree is greater than this one.
    return is_integer(value, 0, MOST_INT)


class Nodes:
    """Counts the statements and expressions of a method while it looks at their form.

    Without the count, a value in which one tuple stands at many places would take too long.
    """

    def __init__(self):
        self._many = 0

    def is_body(self, value, depth):
        """Tell whether a value has the form of a body whose statements have this depth."""
        if not isinstance(value, tuple):
            return False
        for item in value:
            if not self._has_parts(item, STATEMENTS.get(first(item)), depth):
                return False
        return True

    def _is_expression(self, value, depth):
        return self._has_parts(value, EXPRESSIONS.get(first(value)), depth)

    def _are_args(self, value, depth):
        if not isinstance(value, tuple):
            return False
        for item in value:
            if not self._is_expression(item, depth):
                return False
        return True

    def _has_parts(self, value, parts, depth):
        self._many += 1
        if parts is None or len(value) != 1 + len(parts) or depth > MOST_NESTED or self._many > MOST_NODES:
            return False
        for item, part in zip(value[1:], parts):
            if not self._is_part(item, part, depth + 1):
                return False
        return True

    def _is_part(self, value, part, depth):
        match part:
            case "expression":
                return self._is_expression(value, depth)
            case "body":
                return self.is_body(value, depth)
            case "args":
                return self._are_args(value, depth)
            case "choice":
                return value is None or self._is_expression(value, depth)
            case "call":
                return first(value) in ("callc", "callf") and self._is_expression(value, depth)
        return _is_leaf(value, part)


def _is_leaf(value, part):
    match part:
        case "number":
            return _is_number(value)
        case "string":
            return _is_string(value)
        case "kind":
            return has_kind_form(value)
        case "text":
            return is_text(value)
    return _is_string(value) and value in SIGNS
