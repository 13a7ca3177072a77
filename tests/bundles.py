"""Modules with parts of every kind, and the parts of any value."""

INT, BYTES, NOTHING = ("int",), ("bytes",), ("nothing",)
F, G, PAY = ("face", "own", "F"), ("face", "own", "G"), ("face", "bank", "Pay")
A, B = ("class", 0), ("class", 1)
BACK = (("return",),)
# Every instruction once or more.
CODE = (
    ("const", -5), ("pop",), ("load", 0), ("callc", 0, 1), ("load", 1), ("store", 3), ("null",), ("buffer",), ("same",),
    ("neg",), ("not",), ("op", "<<"), ("jump", 13), ("step",), ("jumpif", 0), ("jumpnot", 13), ("load", 0), ("get", 1, 2),
    ("put", 0, 0), ("at",), ("setat",), ("size",), ("new", 1), ("bytes",), ("temp",), ("callf", "own", "F", 1),
    ("callf", "bank", "Any", 59), ("is", A), ("is", PAY), ("as", F), ("seek", PAY, "bus pass"), ("seek", G, "{#"),
    ("begin",), ("commit",), ("abort",), ("throw",), ("returnv",), ("const", 32767), ("return",),
)
HEADS = (("go", (INT, F), INT), ("hush", (), NOTHING))
MODULE = (
    "module", "own", 7, (("bank", 2), ("if", 255)), (("F", HEADS), ("G", ())),
    (
        ("A", -1, (F, PAY), (INT, BYTES), (("go", (INT, F), INT, 0), ("m", (INT, A), INT, 1), ("hush", (), NOTHING, 2))),
        ("B", 0, (G,), (INT, BYTES, A), (("go", (INT, F), INT, 3), ("m", (INT, A), INT, 1), ("hush", (), NOTHING, 2),
                                         ("n", (PAY,), B, 4))),
        ("F", -1, (), (), ()),
    ),
    (
        (0, "go", (INT, F), INT, (), 1, (("load", 1), ("returnv",)), ()),
        (0, "m", (INT, A), INT, (INT, PAY), 4, CODE, ((0, 5, 5), (2, 38, 38), (0, 39, 0))),
        (0, "hush", (), NOTHING, (), 0, BACK, ()),
        (1, "go", (INT, F), INT, (), 300, (("const", 3), ("returnv",)), ()),
        (1, "n", (PAY,), B, (), 1, (("load", 0), ("returnv",)), ()),
    ),
    (0, 2),
)


def paths(value, ahead=()):
    """Return the paths to all parts of a value."""
    yield ahead
    if isinstance(value, tuple):
        for place, item in enumerate(value):
            yield from paths(item, ahead + (place,))


def part_at(value, path):
    for place in path:
        value = value[place]
    return value


def replaced(value, path, part):
    """Return a value with another part at a path."""
    if not path:
        return part
    place = path[0]
    return value[:place] + (replaced(value[place], path[1:], part),) + value[place + 1:]


def others(part):
    """Return values that are like a part, but are others."""
    if isinstance(part, tuple):
        yield from (list(part), part + (0,), (part,), part + part[-1:], part[:-1], part[1:], part[::-1], ())
        for place in range(len(part)):
            yield part[:place] + part[place + 1:]
            yield part[:place] + part[place:place + 1] * 2 + part[place + 1:]
    elif isinstance(part, int):
        yield from (part + 1, part - 1, -part, float(part), bool(part), str(part), (part,), 0, 1, part + 256)
    else:
        yield from (part + "x", part[:-1], part.upper(), part.encode(), [part], (part,), "if", "a b", 0)


def module_with(**more):
    """Return a small module with some parts exchanged."""
    row = {"word": "module", "name": "own", "version": 1, "uses": (), "faces": (), "classes": (), "methods": (),
           "applets": ()}
    row.update(more)
    return tuple(row.values())


def with_code(code, handlers=(), stack=0, params=(INT,), variables=(INT, BYTES), fields=(INT, BYTES), uses=(), faces=()):
    """Return a module with one class and one method."""
    head = ("m", params, NOTHING)
    classes = (("A", -1, (), fields, (head + (0,),)),)
    methods = ((0,) + head + (variables, stack, code, handlers),)
    return module_with(classes=classes, methods=methods, uses=uses, faces=faces)
