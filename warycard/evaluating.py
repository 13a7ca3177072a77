"""The values of expressions (points 407 to 410).

Each function gets the run, the frame of the method that is being run, and the expression.
"""

from warycard.errors import Fault
from warycard.limits import DIVIDED, KIND, LOOK, MOST_BYTES, NULL, PLACE, SIZE
from warycard.shelf import first_values
from warycard.words import op, wrap


def value_of(run, frame, e):
    """Return the value of an expression: an integer, None for null, or an object."""
    action = VALUES[e[0]]
    return action(run, frame, e)


def need(thing):
    """Raise the fault NULL for null."""
    if thing is None:
        raise Fault(NULL)


def look(run, frame, thing):
    """Raise the fault LOOK for an object of another owner than the one for whom the code runs."""
    if thing.keeper != frame.keeper and thing != run.memory.buffer:
        raise Fault(LOOK)


def ask_place(thing, place):
    """Raise the fault PLACE for a place that an object has not."""
    if not 0 <= place < len(thing.held):
        raise Fault(PLACE)


def _int(run, frame, e):
    return e[1]


def _null(run, frame, e):
    return None


def _buffer(run, frame, e):
    return run.memory.buffer


def _slot(run, frame, e):
    return frame.slots[e[1]]


def _get(run, frame, e):
    thing = value_of(run, frame, e[1])
    need(thing)
    return thing.held[e[3]]


def _at(run, frame, e):
    thing = value_of(run, frame, e[1])
    place = value_of(run, frame, e[2])
    need(thing)
    look(run, frame, thing)
    ask_place(thing, place)
    return thing.held[place]


def _size(run, frame, e):
    thing = value_of(run, frame, e[1])
    need(thing)
    look(run, frame, thing)
    return len(thing.held)


def _callc(run, frame, e):
    _, owner, _, row, args = e
    thing = value_of(run, frame, owner)
    given = []
    # A loop needs fewer calls on Python's stack than a comprehension.
    for arg in args:
        given.append(value_of(run, frame, arg))
    need(thing)
    table = run.shelf.table(thing.form)
    return run.call(frame, thing, table[row], given)


def _callf(run, frame, e):
    _, owner, package, face, number, args = e
    thing = value_of(run, frame, owner)
    given = []
    # A loop needs fewer calls on Python's stack than a comprehension.
    for arg in args:
        given.append(value_of(run, frame, arg))
    need(thing)
    name = run.shelf.head_name(package, face, number)
    return run.call(frame, thing, run.shelf.named_row(thing.form, name), given)


def _new(run, frame, e):
    form = ("class", frame.home, e[1])
    return run.memory.make(form, frame.keeper, first_values(run.shelf.field_kinds(form)))


def _bytes(run, frame, e):
    size = value_of(run, frame, e[1])
    if not 0 <= size <= MOST_BYTES:
        raise Fault(SIZE)
    return run.memory.make((e[0],), frame.keeper, [0] * size)


def _neg(run, frame, e):
    return wrap(-value_of(run, frame, e[1]))


def _not(run, frame, e):
    return int(value_of(run, frame, e[1]) == 0)


def _op(run, frame, e):
    left = value_of(run, frame, e[2])
    right = value_of(run, frame, e[3])
    result = op(e[1], left, right)
    if result is None:
        raise Fault(DIVIDED)
    return result


def _same(run, frame, e):
    left = value_of(run, frame, e[1])
    right = value_of(run, frame, e[2])
    return int(left == right)


def _and(run, frame, e):
    if value_of(run, frame, e[1]) == 0:
        return 0
    return int(value_of(run, frame, e[2]) != 0)


def _or(run, frame, e):
    if value_of(run, frame, e[1]) != 0:
        return 1
    return int(value_of(run, frame, e[2]) != 0)


def _is_of(run, frame, thing, kind):
    """Tell whether an object is of a type; for a class with a look."""
    if kind[0] == "class":
        look(run, frame, thing)
    return run.shelf.is_of(thing.form, frame.home, kind)


def _is(run, frame, e):
    thing = value_of(run, frame, e[1])
    if thing is None:
        return 0
    return int(_is_of(run, frame, thing, e[2]))


def _as(run, frame, e):
    thing = value_of(run, frame, e[1])
    if thing is not None and not _is_of(run, frame, thing, e[2]):
        raise Fault(KIND)
    return thing


def _seek(run, frame, e):
    thing = run.applets.get(e[2])
    if thing is None or not run.shelf.is_of(thing.form, frame.home, e[1]):
        return None
    return thing


VALUES = {
    "int": _int,
    "null": _null,
    "buffer": _buffer,
    "slot": _slot,
    "get": _get,
    "at": _at,
    "size": _size,
    "callc": _callc,
    "callf": _callf,
    "new": _new,
    "bytes": _bytes,
    "temp": _bytes,
    "neg": _neg,
    "not": _not,
    "op": _op,
    "same": _same,
    "and": _and,
    "or": _or,
    "is": _is,
    "as": _as,
    "seek": _seek,
}
