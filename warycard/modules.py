"""Tells modules from other values (points 500 to 506)."""

from warycard.codes import Code, are_handlers, is_code
from warycard.known import Known, is_list
from warycard.limits import MOST_METHODS, MOST_STACK, MOST_VERSION
from warycard.shapes import begins, differ, is_tuple
from warycard.texts import is_integer, is_name


def is_module(value):
    """Tell whether a value is a module."""
    if not begins(value, "module", 8):
        return False
    _, name, version, uses, faces, classes, methods, applets = value
    if not is_name(name) or not _is_version(version) or not _are_uses(name, uses) or not _have_names(faces, 2):
        return False
    if not _have_names(classes, 5) or not isinstance(methods, tuple) or len(methods) > MOST_METHODS:
        return False
    if not all([is_list(face[1]) for face in faces]):
        return False
    heads = {face[0]: len(face[1]) for face in faces}
    known = Known(name, [use[0] for use in uses], heads, len(classes))
    return (
        all([_is_face(known, face) for face in faces])
        and _are_classes(known, classes, len(methods))
        and _are_methods(known, classes, methods)
        and _are_rows(classes, methods)
        and is_list(applets)
        and all([known.is_class_number(k) for k in applets])
        and list(applets) == sorted(set(applets))
    )


def _is_version(value):
    return is_integer(value, 0, MOST_VERSION)


def _have_names(value, length):
    """Tell whether a value is a list of tuples of some length that begin with names that differ."""
    if not is_list(value) or not all([is_tuple(item, length) and is_name(item[0]) for item in value]):
        return False
    return differ([item[0] for item in value])


def _are_uses(name, value):
    if not _have_names(value, 2) or not all([_is_version(use[1]) for use in value]):
        return False
    return name not in [use[0] for use in value]


def _is_face(known, face):
    heads = face[1]
    if not all([known.is_head(head) for head in heads]) or not differ([head[0] for head in heads]):
        return False
    # A class does not cross from one package to another one.
    return "class" not in [kind[0] for _, params, result in heads for kind in params + (result,)]


def _are_classes(known, classes, methods):
    for k, row in enumerate(classes):
        _, parent, faces, fields, rows = row
        if not is_integer(parent, -1, k - 1) or not is_list(faces) or not known.are_kinds(fields):
            return False
        if not all([known.is_face(face) for face in faces]) or not differ(faces):
            return False
        if not is_list(rows) or not all([_is_row_of(known, line, methods) for line in rows]):
            return False
        if not differ([line[0] for line in rows]):
            return False
        above = _above(classes, k)
        if fields[:len(above[3])] != above[3] or _heads(rows[:len(above[4])]) != _heads(above[4]):
            return False
    return True


def _above(classes, k):
    """Return the parent of a class; an empty class stands for no parent."""
    parent = classes[k][1]
    return classes[parent] if parent >= 0 else ("", -1, (), (), ())


def _is_row_of(known, value, methods):
    return is_tuple(value, 4) and known.is_head(value[:3]) and is_integer(value[3], 0, methods - 1)


def _heads(rows):
    return [row[:3] for row in rows]


def _are_methods(known, classes, methods):
    if not all([is_tuple(method, 8) and known.is_class_number(method[0]) for method in methods]):
        return False
    numbers = [method[0] for method in methods]
    counts = [(len(row[3]), len(row[4])) for row in classes]
    return numbers == sorted(numbers) and all([_is_method(known, counts, method) for method in methods])


def _is_method(known, counts, method):
    _, name, params, result, variables, stack, code, handlers = method
    if not known.is_head((name, params, result)) or not known.are_kinds(variables):
        return False
    if not is_integer(stack, 0, MOST_STACK) or not is_code(code) or not are_handlers(handlers, len(code)):
        return False
    form = Code(known, counts, 1 + len(params) + len(variables), len(code))
    return all([form.is_instruction(instruction) for instruction in code])


def _are_rows(classes, methods):
    """Tell whether the methods and the rows of the classes belong together."""
    for number, method in enumerate(methods):
        if method[1:4] + (number,) not in classes[method[0]][4]:
            return False
    for k, row in enumerate(classes):
        kept = [line[3] for line in _above(classes, k)[4]]
        for place, line in enumerate(row[4]):
            own = methods[line[3]][:4] == (k,) + line[:3]
            if not own and line[3] not in kept[place:place + 1]:
                return False
    return True
