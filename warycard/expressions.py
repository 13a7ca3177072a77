"""Reads expressions (points 207 and 210)."""

from warycard.cursor import read_named, read_row
from warycard.ranks import COMPARE_RANK, MIDDLE, NEG_RANK, NOT_RANK


class Waiting:
    """The operators of an expression that wait for their right side.

    They are kept in a list, the innermost one last, because a text may have more
    of them than Python has room for calls.
    """

    def __init__(self):
        self._rows = []

    def push(self, rank, front):
        """Let an operator wait: its rank, and its tuple without the last item."""
        self._rows.append((rank, front))

    def takes_not(self):
        """Tell whether a "not" may stand behind the innermost operator."""
        return len(self._rows) == 0 or self._rows[-1][0] <= NOT_RANK

    def compares(self):
        """Tell whether an operator of the rank 4 waits."""
        return any([rank == COMPARE_RANK for rank, _ in self._rows])

    def fold(self, value, rank):
        """Give a right side to the operators that have at least a rank, and return the whole."""
        while len(self._rows) > 0 and self._rows[-1][0] >= rank:
            _, front = self._rows.pop()
            value = front + (value,)
        return value


def read_expression(cursor):
    """Read an expression of any rank."""
    waiting = Waiting()
    value = _read_operand(cursor, waiting)
    rank = _next_rank(cursor)
    while rank > 0:
        if rank == COMPARE_RANK and waiting.compares():
            cursor.refuse()
        value = waiting.fold(value, rank)
        word = cursor.take()
        if word == "is":
            value = _read_is(cursor, value)
        else:
            waiting.push(rank, _front(word, value))
            value = _read_operand(cursor, waiting)
        rank = _next_rank(cursor)
    return waiting.fold(value, 0)


def _next_rank(cursor):
    """Return the rank of the operator between two sides that comes next, or 0."""
    return MIDDLE.get(cursor.word(), 0)


def _front(word, left):
    return (word, left) if word in ("or", "and") else ("op", word, left)


def _read_is(cursor, left):
    value = ("is", left, read_named(cursor))
    # No operand stands behind a type, so only "and" and "or" may follow.
    if _next_rank(cursor) >= COMPARE_RANK:
        cursor.refuse()
    return value


def _read_operand(cursor, waiting):
    """Read what stands ahead of an operator between two sides; what is ahead of it waits."""
    while True:
        word = cursor.word()
        if word == "not" and waiting.takes_not():
            waiting.push(NOT_RANK, ("not",))
        elif word == "-":
            waiting.push(NEG_RANK, ("neg",))
        else:
            break
        cursor.take()
    value = read_start(cursor)
    while goes_on(cursor):
        value = read_suffix(cursor, value)
    return value


def goes_on(cursor):
    """Tell whether a dot or a square bracket follows an expression of the rank 12."""
    return cursor.word() in (".", "[")


def read_suffix(cursor, value):
    """Read one dot or square bracket, and what belongs to it, behind an expression."""
    if cursor.word() == "[":
        return ("at", value, read_between(cursor, "[", "]"))
    cursor.expect(".")
    if cursor.skips("size"):
        return ("size", value)
    name = cursor.value("name")
    if cursor.word() == "(":
        return ("call", value, name, _read_args(cursor))
    return ("get", value, name)


def _read_args(cursor):
    cursor.expect("(")
    args = () if cursor.word() == ")" else read_row(cursor, read_expression)
    cursor.expect(")")
    return args


def read_between(cursor, left, right):
    """Read an expression in brackets that are not its own."""
    cursor.expect(left)
    value = read_expression(cursor)
    cursor.expect(right)
    return value


def read_start(cursor):
    """Read an expression of the rank 12 up to its first dot or square bracket."""
    if cursor.sees("number"):
        return ("int", cursor.take())
    if cursor.sees("name"):
        return ("name", cursor.take())
    match cursor.word():
        case "null" | "this" | "buffer":
            return (cursor.take(),)
        case "new":
            return _read_new(cursor)
        case "seek":
            return _read_seek(cursor)
    return _read_group(cursor)


def _read_new(cursor):
    cursor.expect("new")
    if cursor.word() in ("bytes", "temp"):
        word = cursor.take()
        return (word, read_between(cursor, "(", ")"))
    return ("new", cursor.value("name"))


def _read_seek(cursor):
    cursor.expect("seek")
    kind = read_named(cursor)
    return ("seek", kind, cursor.value("text"))


def _read_group(cursor):
    cursor.expect("(")
    value = read_expression(cursor)
    if cursor.skips("as"):
        value = ("as", value, read_named(cursor))
    cursor.expect(")")
    return value
