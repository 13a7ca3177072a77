"""A package with one method whose code is handed in, among other packages."""

from warycard.linking import World
from warycard.modules import is_module
from warycard.trying import try_module
from warycard.errors import BadCode

INT, BYTES, NULL, NOTHING = ("int",), ("bytes",), ("null",), ("nothing",)
A, B, D = ("class", 0), ("class", 1), ("class", 2)
F, G, PAY, Q = ("face", "own", "F"), ("face", "own", "G"), ("face", "bank", "Pay"), ("face", "far", "Q")
FAR = ("module", "far", 7, (), (("Q", (("go", (), INT),)),), (), (), ())
# The face Q is not known to a package that uses the bank alone.
BANK = ("module", "bank", 2, (("far", 7),), (
    ("Pay", (("pay", (INT, BYTES), INT), ("give", (Q,), NOTHING), ("far", (), Q), ("peer", (PAY,), PAY))),
), (), (), ())
ALONE = ("module", "alone", 1, (), (("Pay", (("pay", (), INT),)),), (), (), ())
FACES = (("F", (("go", (INT,), BYTES), ("hush", (), NOTHING))), ("G", ()))
# The slots of the method behind slot 0, which is of the class A.
PARAMS = (INT, BYTES, A, B, D, F, G, PAY)
SLOTS = (A,) + PARAMS
GO, HUSH = ("go", (INT,), BYTES), ("hush", (), NOTHING)
CHAIN = ("chain", (B, F), A)
# All fields that the class B has.
FIELDS = (INT, BYTES, A, B, F, PAY)


def module_of(code, handlers=(), stack=9, result=NOTHING, variables=(), fields=FIELDS):
    """Return the module with a method that has a code."""
    head = ("try", PARAMS, result)
    rows = ((GO + (0,)), HUSH + (1,), CHAIN + (2,), head + (3,))
    classes = (
        ("A", -1, (F,), fields[:3], rows),
        ("B", 0, (G,), fields, (GO + (0,), HUSH + (4,), CHAIN + (2,), head + (3,), ("more", (), D, 5))),
        ("D", -1, (PAY,), (), (("pay", (INT, BYTES), INT, 6), ("give", (Q,), NOTHING, 7), ("far", (), Q, 8),
                               ("peer", (PAY,), PAY, 9))),
    )
    methods = (
        (0,) + GO + ((), 1, (("null",), ("returnv",)), ()),
        (0,) + HUSH + ((), 0, (("return",),), ()),
        (0,) + CHAIN + ((), 1, (("load", 0), ("returnv",)), ()),
        (0,) + head + (variables, stack, tuple(code), tuple(handlers)),
        (1,) + HUSH + ((), 0, (("return",),), ()),
        (1, "more", (), D, (), 1, (("new", 2), ("returnv",)), ()),
        (2, "pay", (INT, BYTES), INT, (), 1, (("load", 1), ("returnv",)), ()),
        (2, "give", (Q,), NOTHING, (), 0, (("return",),), ()),
        (2, "far", (), Q, (), 1, (("null",), ("returnv",)), ()),
        (2, "peer", (PAY,), PAY, (), 1, (("load", 1), ("returnv",)), ()),
    )
    # As D lists the face Pay, the face Q of its heads is known here, too.
    return ("module", "own", 1, (("bank", 2), ("far", 7)), FACES, classes, methods, ())


# The number of the method whose code is handed in.
NUMBER = 3


def world_of(*modules):
    world = World()
    for module in modules:
        world.add(module)
    return world


def accepts(code, handlers=(), stack=9, result=NOTHING, variables=(), formed=True):
    """Tell whether the code checker lets a code pass; it may have a form that no module has."""
    module = module_of(code, handlers, stack, result, variables)
    if formed and not is_module(module):
        raise AssertionError(code)
    world = world_of(FAR, BANK, ALONE, module)
    try:
        return try_module(world, module) is None
    except BadCode:
        return False
