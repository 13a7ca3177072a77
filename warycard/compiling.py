"""Makes modules of core trees (points 600 to 609)."""

from warycard.coding import Coder
from warycard.flow import greatest_height
from warycard.folding import fold_body
from warycard.improving import shorten


def build(core, *, improve=True):
    """Return the module of a core tree."""
    _, name, version, uses, faces, classes, applets = core
    starts = []
    methods = []
    for k, row in enumerate(classes):
        starts.append(len(methods))
        methods.extend([_method(k, method, improve) for method in row[5]])
    rows = tuple([_class(row, starts) for row in classes])
    return ("module", name, version, uses, faces, rows, tuple(methods), applets)


def _class(row, starts):
    name, parent, faces, fields, table, _ = row
    lines = [(word, params, result, starts[k] + place) for word, params, result, k, place in table]
    return (name, parent, faces, fields, tuple(lines))


def _method(k, method, improve):
    name, params, result, variables, body = method
    coder = Coder()
    coder.code_method(fold_body(body) if improve else body)
    lines = coder.lines
    handlers = coder.handlers
    if improve:
        lines, handlers = shorten(lines, handlers, coder.changes)
    stack = greatest_height(lines, handlers, coder.changes)
    return (k, name, params, result, variables, stack) + _placed(lines, handlers)


def _placed(lines, handlers):
    """Return the code and the handlers, with places instead of marks."""
    code = []
    places = {}
    for line in lines:
        if line[0] == "mark":
            places[line[1]] = len(code)
        else:
            code.append(line)
    found = []
    for line in code:
        found.append((line[0], places[line[1]]) if line[0] in ("jump", "jumpif", "jumpnot") else line)
    rows = [(places[begin], places[end], places[at]) for begin, end, at in handlers]
    return tuple(found), tuple(rows)
