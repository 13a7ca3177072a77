"""Makes the lines of a method shorter (point 608)."""

from warycard.flow import heights, mark_places
from warycard.words import op, wrap

# Stands for what is ahead of the first line: no rule begins with it.
NO_LINE = ("mark", 0)


def shorten(lines, handlers, changes):
    """Return the shorter lines of a method, and its handlers that are left."""
    before = ()
    after = (lines, handlers)
    while after != before:
        before = after
        kept, left = _keep_reached(before[0], before[1], changes)
        after = (_join_lines(_lead_jumps(kept)), left)
    return after


def _keep_reached(lines, handlers, changes):
    """Leave out the lines that cannot be reached, the handlers of nothing, and the marks that no one needs."""
    reached = heights(lines, handlers, changes)
    places = [place for place in sorted(reached) if lines[place][0] != "mark"]
    marks = mark_places(lines)
    left = []
    needed = {lines[place][1]: True for place in places if _is_jump(lines[place])}
    for handler in handlers:
        begin, end, _ = handler
        if any([marks[begin] < place < marks[end] for place in places]):
            left.append(handler)
            needed.update({mark: True for mark in handler})
    kept = [lines[place] for place in sorted(places + [marks[mark] for mark in needed])]
    return kept, left


def _is_jump(line):
    return line[0] in ("jump", "jumpif", "jumpnot")


def _lead_jumps(lines):
    """Let no jump lead to another one, or to the place behind itself."""
    marks = mark_places(lines)
    found = []
    for place, line in enumerate(lines):
        if _is_jump(line):
            found.extend(_lead_jump(lines, marks, place))
        else:
            found.append(line)
    return found


def _lead_jump(lines, marks, place):
    """Return the lines that take the place of a jump."""
    word, mark = lines[place]
    target = _next_place(lines, marks[mark])
    while lines[target][0] == "jump":
        mark = lines[target][1]
        target = _next_place(lines, marks[mark])
    if target == _next_place(lines, place + 1):
        return () if word == "jump" else (("pop",),)
    if word == "jump" and lines[target][0] in ("return", "returnv"):
        return (lines[target],)
    return ((word, mark),)


def _next_place(lines, place):
    """Return the place of the first instruction that does not stand ahead of a place."""
    while place < len(lines) and lines[place][0] == "mark":
        place += 1
    return place


def _join_lines(lines):
    """Join instructions that stand side by side, without a mark between them."""
    found = []
    for line in lines:
        _add_line(found, line)
    return found


def _add_line(found, line):
    last = found[-1] if len(found) > 0 else NO_LINE
    ahead = found[-2] if len(found) > 1 else NO_LINE
    joined = _joined(ahead, last, line)
    if joined is None:
        found.append(line)
    else:
        gone, others = joined
        del found[len(found) - gone:]
        for other in others:
            _add_line(found, other)


def _joined(ahead, last, line):
    """Return how many lines go if a line comes behind two others, and the lines that come; None if it stays."""
    match (last, line):
        case (("const", n), ("neg",)):
            return 1, (("const", wrap(-n)),)
        case (("const", n), ("not",)):
            return 1, (("const", int(n == 0)),)
        case (("const", n), ("jumpif", mark)):
            return 1, (("jump", mark),) if n != 0 else ()
        case (("const", n), ("jumpnot", mark)):
            return 1, (("jump", mark),) if n == 0 else ()
        case (("not",), ("jumpif", mark)):
            return 1, (("jumpnot", mark),)
        case (("not",), ("jumpnot", mark)):
            return 1, (("jumpif", mark),)
        case (("const", n), ("op", sign)):
            return _joined_op(ahead, n, sign)
        case (("const", _), ("pop",)):
            return 1, ()
        case (("load", one), ("store", other)):
            return (1, ()) if one == other else None
    return None


def _joined_op(ahead, n, sign):
    if ahead[0] == "const":
        result = op(sign, ahead[1], n)
        if result is not None:
            return 2, (("const", result),)
    if n == 0 and sign == "==":
        return 1, (("not",),)
    if n == 0 and sign in ("+", "-", "|", "^", "<<", ">>") or n == 1 and sign in ("*", "/"):
        return 1, ()
    return None
