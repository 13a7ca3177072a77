"""Reads the text of a package (points 209 to 211)."""

from warycard.cursor import Cursor, read_kind, read_named, read_row
from warycard.errors import BadSource
from warycard.forms import is_tree
from warycard.limits import MOST_VERSION
from warycard.statements import read_body
from warycard.tokens import tokens


def parse(text):
    """Return the source tree of a text."""
    cursor = Cursor(tokens(text), 1 + text.count("\n"))
    tree = _read_package(cursor)
    # All else that point 208 asks has been seen while reading.
    if not is_tree(tree):
        raise BadSource(0, "the package is nested too deeply")
    return tree


def _read_package(cursor):
    cursor.expect("package")
    name, version = _read_use(cursor)
    uses = _read_all(cursor, "use", _read_use)
    faces = _read_all(cursor, "face", _read_face)
    classes = _read_all(cursor, "class", _read_class)
    applets = _read_all(cursor, "applet", _read_applet)
    if not cursor.sees("end"):
        cursor.refuse()
    return ("package", name, version, uses, faces, classes, applets)


def _read_all(cursor, word, read):
    """Read all that begin with a keyword and stand here."""
    found = []
    while cursor.skips(word):
        found.append(read(cursor))
    return tuple(found)


def _read_use(cursor):
    name = cursor.value("name")
    if cursor.sees("number") and cursor.token()[1] > MOST_VERSION:
        cursor.refuse()
    version = cursor.value("number")
    cursor.expect(";")
    return (name, version)


def _read_applet(cursor):
    name = cursor.value("name")
    cursor.expect(";")
    return name


def _read_face(cursor):
    name = cursor.value("name")
    heads = []
    cursor.expect("{")
    while cursor.word() != "}":
        heads.append(_read_head(cursor))
        cursor.expect(";")
    cursor.expect("}")
    return ("face", name, tuple(heads))


def _read_class(cursor):
    name = cursor.value("name")
    parent = cursor.value("name") if cursor.skips("of") else None
    faces = read_row(cursor, read_named) if cursor.skips("has") else ()
    cursor.expect("{")
    fields = _read_all(cursor, "field", _read_field)
    methods = []
    while cursor.word() != "}":
        methods.append(_read_method(cursor))
    cursor.expect("}")
    return ("class", name, parent, faces, fields, tuple(methods))


def _read_field(cursor):
    pair = _read_pair(cursor)
    cursor.expect(";")
    return pair


def _read_pair(cursor):
    kind = read_kind(cursor)
    return (kind, cursor.value("name"))


def _read_method(cursor):
    head = _read_head(cursor)
    return ("method",) + head + (read_body(cursor),)


def _read_head(cursor):
    result = None if cursor.skips("nothing") else read_kind(cursor)
    name = cursor.value("name")
    cursor.expect("(")
    params = () if cursor.word() == ")" else read_row(cursor, _read_pair)
    cursor.expect(")")
    return (name, params, result)
