"""The ways through the lines of a method (points 601 and 607)."""

# What the instructions do to the height of the stack; a call's change is given by its method.
CHANGES = {
    "mark": 0,
    "const": 1,
    "null": 1,
    "load": 1,
    "store": -1,
    "pop": -1,
    "neg": 0,
    "not": 0,
    "op": -1,
    "same": -1,
    "jump": 0,
    "jumpif": -1,
    "jumpnot": -1,
    "get": 0,
    "put": -2,
    "at": -1,
    "setat": -3,
    "size": 0,
    "new": 1,
    "bytes": 0,
    "temp": 0,
    "return": 0,
    "returnv": -1,
    "throw": -1,
    "is": 0,
    "as": 0,
    "seek": 1,
    "buffer": 1,
    "begin": 0,
    "commit": 0,
    "abort": 0,
    "step": 0,
}


def mark_places(lines):
    """Return the place of each mark among the lines."""
    return {line[1]: place for place, line in enumerate(lines) if line[0] == "mark"}


def heights(lines, handlers, changes):
    """Return the heights of the stack in front of all lines that can be reached, by their places."""
    marks = mark_places(lines)
    ranges = [(marks[begin], marks[end], marks[at]) for begin, end, at in handlers]
    found = {}
    waiting = [(0, 0)]
    while len(waiting) > 0:
        place, height = waiting.pop()
        if place not in found:
            found[place] = height
            line = lines[place]
            after = height + change_of(line, changes)
            waiting.extend([(later, after) for later in _later(line, place, marks)])
            if line[0] != "mark":
                waiting.extend([(at, 1) for begin, end, at in ranges if begin < place < end])
    return found


def change_of(line, changes):
    """Return what an instruction does to the height of the stack."""
    return changes[line] if line[0] in ("callc", "callf") else CHANGES[line[0]]


def _later(line, place, marks):
    """Return the places to which a line may go on."""
    match line[0]:
        case "jump":
            return (marks[line[1]],)
        case "jumpif" | "jumpnot":
            return (place + 1, marks[line[1]])
        case "return" | "returnv" | "throw":
            return ()
    return (place + 1,)


def greatest_height(lines, handlers, changes):
    """Return the greatest height of the stack in front of or behind an instruction that can be reached."""
    greatest = 0
    for place, height in heights(lines, handlers, changes).items():
        greatest = max(greatest, height, height + change_of(lines[place], changes))
    return greatest
