"""Makes core trees of source trees (point 312)."""

from warycard.asking import ask
from warycard.core import ask_core
from warycard.errors import BadTree
from warycard.forms import is_tree
from warycard.limits import MOST_ITEMS, MOST_METHODS
from warycard.packages import Package
from warycard.resolving import Body
from warycard.scopes import Scope
from warycard.shapes import differ
from warycard.tables import rows_with


def check(tree, used):
    """Return the core tree of a source tree."""
    if not is_tree(tree):
        raise BadTree()
    _, name, version, uses, faces, classes, applets = tree
    _ask_sizes(classes)
    ordered = _numbered(classes)
    scope = Scope(name, [face[1] for face in faces], [row[1] for row in ordered])
    front = ("core", name, version, uses, tuple([_face(scope, face) for face in faces]))
    outlines = _outlines(scope, ordered)
    package = Package(front + (tuple([outline[0] for outline in outlines]), ()), used)
    full = [_filled(scope, package, outlines, k, row) for k, row in enumerate(ordered)]
    numbers = [scope.class_number(applet) for applet in applets]
    core = front + (tuple(full), tuple(sorted(set(numbers))))
    ask_core(core, used)
    return core


def _ask_sizes(classes):
    # What follows would take long for trees that are much too large.
    ask(len(classes) <= MOST_ITEMS, "there are too many classes")
    ask(sum([len(row[5]) for row in classes]) <= MOST_METHODS, "there are too many methods")


def _numbered(classes):
    """Return the classes in the order of their numbers."""
    found = []
    rest = list(classes)
    while len(rest) > 0:
        names = [row[1] for row in found]
        ready = [place for place, row in enumerate(rest) if row[2] is None or row[2] in names]
        ask(len(ready) > 0, "the parent of a class is not there")
        found.append(rest.pop(ready[0]))
    return found


def _face(scope, face):
    _, name, heads = face
    return (name, tuple([scope.head(word, params, result) for word, params, result in heads]))


def _outlines(scope, ordered):
    """Return the classes without the bodies of their methods, each with the names of its fields."""
    found = []
    for k, row in enumerate(ordered):
        _, name, above, faces, fields, methods = row
        parent = -1
        names = []
        kinds = ()
        table = ()
        if above is not None:
            parent = scope.class_number(above)
            outline, kept = found[parent]
            names = list(kept)
            kinds = outline[3]
            table = outline[4]
        names += [field for _, field in fields]
        ask(differ(names), "two fields of a class have the same name")
        kinds += tuple([scope.kind(kind) for kind, _ in fields])
        heads = tuple([scope.head(word, params, result) for _, word, params, result, _ in methods])
        listed = tuple([scope.kind(face) for face in faces])
        found.append(((name, parent, listed, kinds, rows_with(table, k, heads), heads), names))
    return found


def _filled(scope, package, outlines, k, row):
    """Return a class with the bodies of its methods."""
    outline = outlines[k][0]
    methods = []
    for head, method in zip(outline[5], row[5]):
        _, _, params, _, body = method
        names = Body(scope, package, outlines, k, params)
        statements = names.statements(body)
        variables = names.slot_kinds()[1 + len(params):]
        methods.append(head + (variables, statements))
    return outline[:5] + (tuple(methods),)
