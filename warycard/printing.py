"""Writes the text of a source tree (point 212)."""

from warycard.errors import BadTree
from warycard.forms import is_tree
from warycard.ranks import COMPARE_RANK, MIDDLE, NEG_RANK, NOT_RANK, WHOLE_RANK


def write(tree):
    """Return the text of a source tree."""
    if not is_tree(tree):
        raise BadTree()
    _, name, version, uses, faces, classes, applets = tree
    lines = [f"package {name} {version};"]
    for used, least in uses:
        lines.append(f"use {used} {least};")
    for face in faces:
        lines.append("")
        lines.extend(_face(face))
    for row in classes:
        lines.append("")
        lines.extend(_class(row))
    if len(applets) > 0:
        lines.append("")
    for applet in applets:
        lines.append(f"applet {applet};")
    return "".join([line + "\n" for line in lines])


def _inside(lines):
    """Return lines as they stand in braces."""
    return ["    " + line for line in lines]


def _face(face):
    _, name, heads = face
    inner = [_head(head) + ";" for head in heads]
    return [f"face {name} " + "{"] + _inside(inner) + ["}"]


def _class(row):
    _, name, parent, faces, fields, methods = row
    words = f"class {name} "
    if parent is not None:
        words += f"of {parent} "
    if len(faces) > 0:
        listed = ", ".join([_kind(face) for face in faces])
        words += f"has {listed} "
    inner = [f"field {_pair(field)};" for field in fields]
    for method in methods:
        inner.extend(_method(method))
    return [words + "{"] + _inside(inner) + ["}"]


def _method(method):
    return [_head(method[1:4]) + " {"] + _inside(_body(method[4])) + ["}"]


def _head(head):
    name, params, result = head
    first = "nothing" if result is None else _kind(result)
    listed = ", ".join([_pair(param) for param in params])
    return f"{first} {name}({listed})"


def _pair(pair):
    kind, name = pair
    return f"{_kind(kind)} {name}"


def _kind(kind):
    """Return the text of a type."""
    if kind in ("int", "bytes"):
        return kind
    return ".".join(kind[1:])


def _body(body):
    lines = []
    for statement in body:
        lines.extend(_statement(statement))
    return lines


def _statement(statement):
    """Return the lines of a statement."""
    match statement:
        case ("if", e, body, other):
            lines = [f"if ({_any(e)}) " + "{"] + _inside(_body(body))
            if len(other) > 0:
                lines += ["} else {"] + _inside(_body(other))
            return lines + ["}"]
        case ("while", e, body):
            return [f"while ({_any(e)}) " + "{"] + _inside(_body(body)) + ["}"]
        case ("try", body, name, other):
            middle = "} " + f"catch ({name}) " + "{"
            return ["try {"] + _inside(_body(body)) + [middle] + _inside(_body(other)) + ["}"]
    return [_simple(statement) + ";"]


def _simple(statement):
    """Return the text of a statement without braces, up to its semicolon."""
    match statement:
        case ("var", kind, name, e):
            return f"{_kind(kind)} {name} = {_any(e)}"
        case ("set", name, e):
            return f"{name} = {_any(e)}"
        case ("put", e, name, f):
            return f"{_whole(e)}.{name} = {_any(f)}"
        case ("store", e, f, g):
            return f"{_whole(e)}[{_any(f)}] = {_any(g)}"
        case ("return", None):
            return "return"
        case ("return", e):
            return f"return {_any(e)}"
        case ("throw", e):
            return f"throw {_any(e)}"
        case ("do", e):
            return _any(e)
    return statement[0]


def _rank(e):
    match e[0]:
        case "op":
            return MIDDLE[e[1]]
        case "not":
            return NOT_RANK
        case "neg":
            return NEG_RANK
    return MIDDLE.get(e[0], WHOLE_RANK)


def _ranked(e, least):
    """Return the text of an expression, in brackets if its rank is below the least one."""
    return _any(e) if _rank(e) >= least else f"({_any(e)})"


def _whole(e):
    return _ranked(e, WHOLE_RANK)


def _any(e):
    """Return the text of an expression of any rank."""
    match e:
        case ("op", sign, left, right):
            return _sides(left, sign, right)
        case ("or" | "and", left, right):
            return _sides(left, e[0], right)
        case ("not", f):
            return f"not {_ranked(f, NOT_RANK)}"
        case ("is", f, kind):
            return f"{_ranked(f, COMPARE_RANK + 1)} is {_kind(kind)}"
        case ("neg", f):
            return f"-{_ranked(f, NEG_RANK)}"
        case ("as", f, kind):
            return f"({_any(f)} as {_kind(kind)})"
    return _suffixed(e)


def _sides(left, sign, right):
    rank = MIDDLE[sign]
    # Comparisons do not stand in a row.
    least = rank + 1 if rank == COMPARE_RANK else rank
    return f"{_ranked(left, least)} {sign} {_ranked(right, rank + 1)}"


def _suffixed(e):
    match e:
        case ("get", f, name):
            return f"{_whole(f)}.{name}"
        case ("size", f):
            return f"{_whole(f)}.size"
        case ("at", f, place):
            return f"{_whole(f)}[{_any(place)}]"
        case ("call", f, name, args):
            listed = ", ".join([_any(arg) for arg in args])
            return f"{_whole(f)}.{name}({listed})"
    return _started(e)


def _started(e):
    match e:
        case ("int", n):
            return str(n)
        case ("name", name):
            return name
        case ("new", name):
            return f"new {name}"
        case ("bytes" | "temp", f):
            return f"new {e[0]}({_any(f)})"
        case ("seek", kind, text):
            return f'seek {_kind(kind)} "{text}"'
    return e[0]
