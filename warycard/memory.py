"""The objects of a plain card, its transaction and its power (points 401, and 411 to 414)."""

from warycard.errors import Fault, PowerCut
from warycard.limits import MOST_BUFFER, MOST_CELLS, MOST_LOG, MOST_OBJECTS, ROOM, TRANSACTION


class Thing:
    """An object: its kind, its owner and its values."""

    def __init__(self, form, keeper, held):
        # The form is ("class", package, k), ("bytes",) or ("temp",).
        self.form = form
        self.keeper = keeper
        self.held = held

    def hold(self, row):
        """Take other values."""
        self.held = row

    def clear_temp(self):
        """Forget the values if they do not last without power."""
        if self.form == ("temp",):
            self.held = [0] * len(self.held)


class Memory:
    """All objects that were made and not collected."""

    def __init__(self):
        self.buffer = Thing(("temp",), 0, [0] * MOST_BUFFER)
        self._things = []
        self._noted = []
        self._transaction = False
        self._power = True
        # The number of effects up to the failure of the power, or None.
        self._left = None
        # What may let the power fail at an effect, or None.
        self._watcher = None

    def has_power(self):
        """Tell whether the power is on."""
        return self._power

    def cut(self, effects):
        """Let the power fail behind a number of effects."""
        self._left = effects

    def watch(self, watcher):
        """Let the power fail in the place of the first effect that a watcher stops."""
        self._watcher = watcher

    def reset(self):
        """Switch the power on."""
        self._power = True
        self._left = None
        self._watcher = None
        self.buffer.clear_temp()
        for thing in self._things:
            thing.clear_temp()

    def effect(self):
        """Let one more effect happen, unless the power fails in its place."""
        if self._left == 0 or self._watcher is not None and self._watcher.stops():
            self.close()
            self._power = False
            raise PowerCut()
        if self._left is not None:
            self._left -= 1

    def copy(self):
        """Return another memory that holds the same as if no transaction were open, and its objects by those here."""
        other = Memory()
        twins = {thing: Thing(thing.form, thing.keeper, list(thing.held)) for thing in self._things}
        for thing, place, value in reversed(self._noted):
            twins[thing].held[place] = value
        for twin in twins.values():
            twin.hold([twins[value] if isinstance(value, Thing) else value for value in twin.held])
        other._things = list(twins.values())
        other._power = self._power
        other.buffer.hold(list(self.buffer.held))
        return other, twins

    def fill(self, data):
        """Fill the buffer."""
        self.buffer.hold(list(data) + [0] * (MOST_BUFFER - len(data)))

    def make(self, form, keeper, held):
        """Make an object, and return it."""
        cells, many = self.used()
        if many >= MOST_OBJECTS or cells + 3 + len(held) > MOST_CELLS:
            raise Fault(ROOM)
        self.effect()
        thing = Thing(form, keeper, held)
        self._things.append(thing)
        return thing

    def used(self):
        """Return the numbers of cells and of objects."""
        return sum([3 + len(thing.held) for thing in self._things]), len(self._things)

    def keep(self, roots):
        """Remove all objects that cannot be reached from some."""
        self.effect()
        kept = {thing: True for thing in reached(roots)}
        self._things = [thing for thing in self._things if thing in kept]

    def change(self, thing, place, value):
        """Change a value of an object."""
        if thing.form != ("temp",):
            if self._transaction:
                self._note(thing, place)
            else:
                self.effect()
        thing.held[place] = value

    def _note(self, thing, place):
        if len(self._noted) >= MOST_LOG:
            raise Fault(TRANSACTION)
        self._noted.append((thing, place, thing.held[place]))

    def begin(self):
        """Begin a transaction."""
        if self._transaction:
            raise Fault(TRANSACTION)
        self._transaction = True

    def commit(self):
        """End the transaction, and keep what it changed."""
        self._ask_open()
        if len(self._noted) > 0:
            self.effect()
        self._noted = []
        self._transaction = False

    def abort(self):
        """End the transaction, and put back what it changed."""
        self._ask_open()
        self.close()

    def close(self):
        """Put back what a transaction changed if one is open, and end it."""
        for thing, place, value in reversed(self._noted):
            thing.held[place] = value
        self._noted = []
        self._transaction = False

    def _ask_open(self):
        if not self._transaction:
            raise Fault(TRANSACTION)


def reached(roots):
    """Return the list of the objects that can be reached from some, in the order of point 424."""
    found = []
    known = {}
    waiting = list(roots)
    while len(waiting) > 0:
        later = []
        for thing in waiting:
            if thing not in known:
                known[thing] = True
                found.append(thing)
                later.extend([value for value in thing.held if isinstance(value, Thing)])
        waiting = later
    return found
