"""Runs methods by their core trees (points 404 to 406, and 410)."""

from warycard.errors import Fault, StepsGone
from warycard.evaluating import ask_place, look, need, value_of
from warycard.limits import DEPTH, LOOK, MOST_DEPTH, MOST_STEPS
from warycard.shelf import first_values


class Frame:
    """A method that is being run."""

    def __init__(self, home, keeper, depth, slots):
        # The package of the method, and the owner for whom it runs.
        self.home = home
        self.keeper = keeper
        self.depth = depth
        self.slots = slots


class Run:
    """What a card does for one of its calls."""

    def __init__(self, shelf, memory, applets):
        self.shelf = shelf
        self.memory = memory
        # The objects of the applets, by their names.
        self.applets = applets
        self._steps = 0

    def step(self):
        """Make a step."""
        if self._steps >= MOST_STEPS:
            raise StepsGone()
        self._steps += 1

    def call(self, frame, thing, row, given):
        """Run the method of a row for a method that is being run, and return its result."""
        self.step()
        if frame.depth >= MOST_DEPTH:
            raise Fault(DEPTH)
        return self.start(thing, row, given, frame.depth + 1)

    def start(self, thing, row, given, depth):
        """Run the method of a row, and return its result, or None."""
        _, _, _, variables, body = self.shelf.method(thing.form, row)
        slots = [thing] + given + first_values(variables)
        frame = Frame(thing.form[1], thing.keeper, depth, slots)
        done = _body(self, frame, body)
        return None if done is None else done[0]


def _body(run, frame, body):
    """Run statements; return None if their end is reached, otherwise a tuple of the result."""
    for statement in body:
        action = ACTIONS[statement[0]]
        done = action(run, frame, statement)
        if done is not None:
            return done
    return None


def _set(run, frame, statement):
    frame.slots[statement[1]] = value_of(run, frame, statement[2])


def _put(run, frame, statement):
    thing = value_of(run, frame, statement[1])
    value = value_of(run, frame, statement[4])
    need(thing)
    if value == run.memory.buffer:
        raise Fault(LOOK)
    run.memory.change(thing, statement[3], value)


def _store(run, frame, statement):
    thing = value_of(run, frame, statement[1])
    place = value_of(run, frame, statement[2])
    value = value_of(run, frame, statement[3])
    need(thing)
    look(run, frame, thing)
    ask_place(thing, place)
    run.memory.change(thing, place, value & 255)


def _if(run, frame, statement):
    _, test, one, other = statement
    return _body(run, frame, one if value_of(run, frame, test) != 0 else other)


def _while(run, frame, statement):
    _, test, body = statement
    done = None
    run.step()
    while done is None and value_of(run, frame, test) != 0:
        done = _body(run, frame, body)
        if done is None:
            run.step()
    return done


def _return(run, frame, statement):
    e = statement[1]
    return (None if e is None else value_of(run, frame, e),)


def _throw(run, frame, statement):
    raise Fault(value_of(run, frame, statement[1]))


def _try(run, frame, statement):
    _, one, slot, other = statement
    try:
        return _body(run, frame, one)
    except Fault as fault:
        frame.slots[slot] = fault.code
    return _body(run, frame, other)


def _do(run, frame, statement):
    value_of(run, frame, statement[1])


def _begin(run, frame, statement):
    run.memory.begin()


def _commit(run, frame, statement):
    run.memory.commit()


def _abort(run, frame, statement):
    run.memory.abort()


ACTIONS = {
    "set": _set,
    "put": _put,
    "store": _store,
    "if": _if,
    "while": _while,
    "return": _return,
    "throw": _throw,
    "try": _try,
    "do": _do,
    "begin": _begin,
    "commit": _commit,
    "abort": _abort,
}
