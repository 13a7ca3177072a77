"""The picture of all that the applets of a card lead to (point 424)."""

from warycard.finding import Places
from warycard.heap import BYTES, TEMP


def state_of(world, heap, rows):
    """Return the picture, if the owners, the objects and the names of the applets are given."""
    found = heap.reached([number for _, number, _ in rows], Places(world))
    numbers = {number: place for place, number in enumerate(found)}
    applets = [(owner, name, numbers[number]) for owner, number, name in rows]
    return tuple(applets), tuple([_object(world, heap, number, numbers) for number in found])


def _object(world, heap, number, numbers):
    """Return an object as it stands in the picture, where objects are told by other numbers."""
    kind = heap.kind(number)
    row = [heap.read(number, place) for place in range(heap.size(number))]
    if kind >= 0:
        places = Places(world)
        for place in places(kind):
            row[place] = None if row[place] == 0 else ("object", numbers[row[place]])
    return _shown_kind(world, kind), heap.owner(number), tuple(row)


def _shown_kind(world, kind):
    if kind == BYTES:
        return "bytes"
    if kind == TEMP:
        return "temp"
    package = world.package(kind)
    return ("class", package, world.module(package)[5][world.own(kind)][0])
