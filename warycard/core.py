"""Tells core trees from other values (points 304 to 311)."""

from warycard.asking import ask
from warycard.errors import BadProgram
from warycard.kinds import INT, NOTHING
from warycard.limits import MOST_ITEMS, MOST_METHODS, MOST_VERSION
from warycard.nodes import has_kind_form, is_body
from warycard.packages import Package
from warycard.rules import Rules
from warycard.shapes import begins, differ, is_row, is_tuple
from warycard.tables import first_with, rows_with
from warycard.texts import is_integer
from warycard.tokens import is_free_name


def is_core(value, used):
    """Tell whether a value is a core tree."""
    try:
        ask_core(value, used)
    except BadProgram:
        return False
    return True


def ask_core(value, used):
    """Raise BadProgram if a value is no core tree."""
    ask(_has_form(value), "the tree has a wrong form")
    _, name, _, uses, faces, classes, applets = value
    _ask_uses(name, uses, used)
    names = [row[0] for row in faces + classes]
    ask(differ(names), "two faces or classes have the same name")
    for k, row in enumerate(classes):
        ask(row[1] < k, "a parent does not stand ahead of its class")
    package = Package(value, used)
    for _, heads in faces:
        ask(differ([head[0] for head in heads]), "two heads of a face have the same name")
        for _, params, result in heads:
            _ask_head(package, params, result)
            ask("class" not in [kind[0] for kind in params + (result,)], "a class stands in a face")
    ask(sum([len(row[5]) for row in classes]) <= MOST_METHODS, "there are too many methods")
    for k in range(len(classes)):
        _ask_class(package, classes, k)
    # A body may use any class, so no body is looked at ahead of the classes.
    for k, row in enumerate(classes):
        for method in row[5]:
            Rules(package, classes, k, method).ask_method(method[4])
    ask(list(applets) == sorted(set(applets)), "the applets are not in order")
    for k in applets:
        ask(k < len(classes) and _can_be_applet(classes[k][4]), "an applet has not its methods")


def _has_form(value):
    if not begins(value, "core", 7):
        return False
    _, name, version, uses, faces, classes, applets = value
    return (
        is_free_name(name)
        and is_integer(version, 0, MOST_VERSION)
        and _is_list(uses, _is_use)
        and _is_list(faces, _is_face)
        and _is_list(classes, _is_class)
        and _is_list(applets, _is_count)
    )


def _is_list(value, test):
    return isinstance(value, tuple) and len(value) <= MOST_ITEMS and is_row(value, test)


def _is_count(value):
    return is_integer(value, 0, MOST_METHODS)


def _is_parent(value):
    return is_integer(value, -1, MOST_ITEMS)


def _is_use(value):
    return is_tuple(value, 2) and is_free_name(value[0]) and is_integer(value[1], 0, MOST_VERSION)


def _is_face(value):
    return is_tuple(value, 2) and is_free_name(value[0]) and _is_list(value[1], _is_head)


def _is_head(value):
    if not is_tuple(value, 3):
        return False
    name, params, result = value
    return is_free_name(name) and _is_list(params, has_kind_form) and has_kind_form(result)


def _is_class(value):
    if not is_tuple(value, 6):
        return False
    name, parent, faces, fields, table, methods = value
    return (
        is_free_name(name)
        and _is_parent(parent)
        and _is_list(faces, has_kind_form)
        and _is_list(fields, has_kind_form)
        and _is_list(table, _is_table_row)
        and _is_list(methods, _is_method)
    )


def _is_table_row(value):
    return is_tuple(value, 5) and _is_head(value[:3]) and _is_count(value[3]) and _is_count(value[4])


def _is_method(value):
    return is_tuple(value, 5) and _is_head(value[:3]) and _is_list(value[3], has_kind_form) and is_body(value[4])


def _ask_uses(name, uses, used):
    names = [name] + [use[0] for use in uses]
    ask(differ(names), "two packages have the same name")
    for package, version in uses:
        ask(package in used and used[package][0] == version, "a used package is not there")


def _ask_head(package, params, result):
    for kind in params:
        ask(package.is_known(kind), "the type of a param is not known")
    ask(result == NOTHING or package.is_known(result), "the type of a result is not known")


def _ask_class(package, classes, k):
    _, parent, faces, fields, table, methods = classes[k]
    for kind in fields:
        ask(package.is_known(kind), "the type of a field is not known")
    ask(differ([method[0] for method in methods]), "two methods of a class have the same name")
    above = ()
    if parent >= 0:
        kept = classes[parent][3]
        ask(fields[:len(kept)] == kept, "a class has not the fields of its parent")
        above = classes[parent][4]
    _ask_table(above, k, methods, table)
    _ask_faces(package, faces, table)
    for _, params, result, variables, _ in methods:
        _ask_head(package, params, result)
        for kind in variables:
            ask(package.is_known(kind), "the type of a variable is not known")


def _ask_table(above, k, methods, table):
    for name, params, result, _, _ in methods:
        old = first_with(above, name)
        ask(old is None or old[1:3] == (params, result), "a method is not like the one of the parent")
    ask(table == rows_with(above, k, methods), "a table is not that of the class")


def _ask_faces(package, faces, table):
    ask(differ(faces), "a class lists a face twice")
    for kind in faces:
        ask(package.is_known(kind) and kind[0] == "face", "a face that is listed is not known")
        for head in package.heads(kind[1], kind[2]):
            row = first_with(table, head[0])
            ask(row is not None and row[:3] == head, "a method of a face is missing")


def _can_be_applet(table):
    made = first_with(table, "made")
    process = first_with(table, "process")
    if made is None or process is None:
        return False
    return made[1:3] == ((INT,), NOTHING) and process[1:3] == ((INT,), INT)
