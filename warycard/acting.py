"""What the instructions of the machine do (points 1102 and 1103).

Each function gets the machine, the frame that is run, and the instruction.
"""

from warycard.errors import Fault
from warycard.heap import BUFFER, BYTES, TEMP
from warycard.kinds import INT
from warycard.limits import DIVIDED, KIND, LOOK, MOST_BYTES, NULL, PLACE, SIZE
from warycard.words import op, wrap


def _const(machine, frame, instruction):
    frame.stack.append(instruction[1])


def _null(machine, frame, instruction):
    frame.stack.append(0)


def _buffer(machine, frame, instruction):
    frame.stack.append(BUFFER)


def _load(machine, frame, instruction):
    frame.stack.append(frame.slots[instruction[1]])


def _store(machine, frame, instruction):
    frame.slots[instruction[1]] = frame.stack.pop()


def _pop(machine, frame, instruction):
    frame.stack.pop()


def _neg(machine, frame, instruction):
    frame.stack.append(wrap(-frame.stack.pop()))


def _not(machine, frame, instruction):
    frame.stack.append(int(frame.stack.pop() == 0))


def _op(machine, frame, instruction):
    left, right = frame.take(2)
    result = op(instruction[1], left, right)
    if result is None:
        raise Fault(DIVIDED)
    frame.stack.append(result)


def _same(machine, frame, instruction):
    one, other = frame.take(2)
    frame.stack.append(int(one == other))


def need(number):
    """Raise the fault NULL for null."""
    if number == 0:
        raise Fault(NULL)


def _get(machine, frame, instruction):
    number = frame.stack.pop()
    need(number)
    frame.stack.append(machine.heap.read(number, instruction[2]))


def _put(machine, frame, instruction):
    _, k, field = instruction
    number, word = frame.take(2)
    need(number)
    kinds = machine.world.fields(machine.world.number(frame.home, k))
    # An integer may be as great as the number of the buffer.
    if word == BUFFER and kinds[field] != INT:
        raise Fault(LOOK)
    machine.heap.write(number, field, word)


def _ask_place(machine, frame, number, place):
    """Raise the fault that arises if bytes are used at a place."""
    need(number)
    machine.look(frame, number)
    if not 0 <= place < machine.heap.size(number):
        raise Fault(PLACE)


def _at(machine, frame, instruction):
    number, place = frame.take(2)
    _ask_place(machine, frame, number, place)
    frame.stack.append(machine.heap.read(number, place))


def _setat(machine, frame, instruction):
    number, place, word = frame.take(3)
    _ask_place(machine, frame, number, place)
    machine.heap.write(number, place, word & 255)


def _size(machine, frame, instruction):
    number = frame.stack.pop()
    need(number)
    machine.look(frame, number)
    frame.stack.append(machine.heap.size(number))


def _new(machine, frame, instruction):
    g = machine.world.number(frame.home, instruction[1])
    frame.stack.append(machine.heap.make(g, frame.keeper, len(machine.world.fields(g))))


def _make_bytes(machine, frame, instruction):
    size = frame.stack.pop()
    if not 0 <= size <= MOST_BYTES:
        raise Fault(SIZE)
    kind = BYTES if instruction[0] == "bytes" else TEMP
    frame.stack.append(machine.heap.make(kind, frame.keeper, size))


def _is_of(machine, frame, number, kind):
    """Tell whether an object is of a type; for a class with a look."""
    if kind[0] == "class":
        machine.look(frame, number)
    return machine.world.is_kind(machine.heap.kind(number), frame.home, kind)


def _is(machine, frame, instruction):
    number = frame.stack.pop()
    frame.stack.append(int(number != 0 and _is_of(machine, frame, number, instruction[1])))


def _as(machine, frame, instruction):
    number = frame.stack.pop()
    if number != 0 and not _is_of(machine, frame, number, instruction[1]):
        raise Fault(KIND)
    frame.stack.append(number)


def _seek(machine, frame, instruction):
    _, kind, text = instruction
    number = machine.applet(text)
    fits = number != 0 and machine.world.is_kind(machine.heap.kind(number), frame.home, kind)
    frame.stack.append(number if fits else 0)


def _throw(machine, frame, instruction):
    raise Fault(frame.stack.pop())


def _begin(machine, frame, instruction):
    machine.journal.begin()


def _commit(machine, frame, instruction):
    machine.journal.commit()


def _abort(machine, frame, instruction):
    machine.journal.abort()


def _step(machine, frame, instruction):
    machine.step()


def _jump(machine, frame, instruction):
    frame.place = instruction[1]


def _jumpif(machine, frame, instruction):
    frame.place = instruction[1] if frame.stack.pop() != 0 else frame.place + 1


def _jumpnot(machine, frame, instruction):
    frame.place = instruction[1] if frame.stack.pop() == 0 else frame.place + 1


def _callc(machine, frame, instruction):
    _, k, row = instruction
    table = machine.world.module(frame.home)[5][k][4]
    number, *given = frame.take(1 + len(table[row][1]))
    need(number)
    machine.call(number, row, given)


def _callf(machine, frame, instruction):
    _, package, face, place = instruction
    number, *given = frame.take(1 + len(machine.world.face(package, face)[place][1]))
    need(number)
    machine.call(number, machine.world.row(machine.heap.kind(number), package, face, place), given)


def _return(machine, frame, instruction):
    machine.leave([])


def _returnv(machine, frame, instruction):
    machine.leave(frame.take(1))


# Behind these the place of the frame becomes one greater.
ACTIONS = {
    "const": _const,
    "null": _null,
    "buffer": _buffer,
    "load": _load,
    "store": _store,
    "pop": _pop,
    "neg": _neg,
    "not": _not,
    "op": _op,
    "same": _same,
    "get": _get,
    "put": _put,
    "at": _at,
    "setat": _setat,
    "size": _size,
    "new": _new,
    "bytes": _make_bytes,
    "temp": _make_bytes,
    "is": _is,
    "as": _as,
    "seek": _seek,
    "throw": _throw,
    "begin": _begin,
    "commit": _commit,
    "abort": _abort,
    "step": _step,
}
# These tell themselves where the run goes on.
WAYS = {
    "jump": _jump,
    "jumpif": _jumpif,
    "jumpnot": _jumpnot,
    "callc": _callc,
    "callf": _callf,
    "return": _return,
    "returnv": _returnv,
}
