"""What the instructions of a method take from the stack and put there (point 802)."""

from warycard.errors import BadCode
from warycard.kinds import NOTHING
from warycard.texts import is_integer

# What the instructions take and put whose operands do not tell it; each type is told by its one word.
# Where several types will do, there is a word for them: any, reference (all but int), object (class, face or null).
FIXED = {
    "const": ((), ("int",)),
    "null": ((), ("null",)),
    "pop": (("any",), ()),
    "neg": (("int",), ("int",)),
    "not": (("int",), ("int",)),
    "op": (("int", "int"), ("int",)),
    "same": (("reference", "reference"), ("int",)),
    "jump": ((), ()),
    "jumpif": (("int",), ()),
    "jumpnot": (("int",), ()),
    "at": (("bytes", "int"), ("int",)),
    "setat": (("bytes", "int", "int"), ()),
    "size": (("bytes",), ("int",)),
    "bytes": (("int",), ("bytes",)),
    "temp": (("int",), ("bytes",)),
    "throw": (("int",), ()),
    "buffer": ((), ("bytes",)),
    "begin": ((), ()),
    "commit": ((), ()),
    "abort": ((), ()),
    "step": ((), ()),
}
# What "is" and "as" take.
OBJECT = ("object",)


class Effects:
    """What the instructions of one method do to the types on the stack."""

    def __init__(self, world, module, method):
        _, name, _, uses, _, classes, _, _ = module
        k, _, params, result, variables, _, _, _ = method
        self._world = world
        self._home = name
        self._packages = [name] + [use[0] for use in uses]
        self._classes = classes
        self._slots = (("class", k),) + params + variables
        self._result = result

    def slot_kinds(self):
        """Return the types of the slots."""
        return self._slots

    def of(self, instruction):
        """Return the types that an instruction takes and those that it puts, or raise BadCode."""
        match instruction:
            case ("load", slot):
                return (), (self._slot_kind(slot, 0),)
            case ("store", slot):
                return (self._slot_kind(slot, 1),), ()
            case ("get", k, field):
                return (("class", k),), (self._field_kind(k, field),)
            case ("put", k, field):
                return (("class", k), self._field_kind(k, field)), ()
            case ("new", k):
                self._class_row(k)
                return (), (("class", k),)
            case ("callc", k, row):
                return _call(("class", k), _item(self._class_row(k)[4], row))
            case ("callf", package, face, number):
                return _call(("face", package, face), _item(self._heads(package, face), number))
            case ("return",):
                ask_code(self._result == NOTHING)
                return (), ()
            case ("returnv",):
                ask_code(self._result != NOTHING)
                return (self._result,), ()
            case ("is" | "as", kind):
                self._ask_object(kind)
                return (OBJECT,), (kind if instruction[0] == "as" else ("int",),)
            case ("seek", kind, _):
                ask_code(kind[0] == "face")
                self._ask_object(kind)
                return (), (kind,)
        takes, puts = FIXED[instruction[0]]
        return tuple([(word,) for word in takes]), tuple([(word,) for word in puts])

    def meets(self, one, other):
        """Tell whether a type on the stack meets one that an instruction takes."""
        match other[0]:
            case "any":
                return True
            case "reference":
                return one != ("int",)
            case "object":
                return one[0] in ("class", "face", "null")
        return self._world.fits(self._home, one, other)

    def _slot_kind(self, slot, least):
        ask_code(is_integer(slot, least, len(self._slots) - 1))
        return self._slots[slot]

    def _class_row(self, k):
        return _item(self._classes, k)

    def _field_kind(self, k, field):
        return _item(self._class_row(k)[3], field)

    def _heads(self, package, face):
        """Return the heads of a face that the module knows."""
        heads = self._world.face(package, face)
        ask_code(package in self._packages and heads is not None)
        return heads

    def _ask_object(self, kind):
        """Raise BadCode unless a type is a class or a face that the module knows."""
        match kind:
            case ("class", k):
                self._class_row(k)
            case ("face", package, face):
                self._heads(package, face)
            case _:
                raise BadCode()


def ask_code(holds):
    """Raise BadCode, unless something holds."""
    if not holds:
        raise BadCode()


def _item(row, place):
    ask_code(is_integer(place, 0, len(row) - 1))
    return row[place]


def _call(owner, head):
    """Return what the call of a method takes and puts."""
    _, params, result = head[:3]
    return (owner,) + params, () if result == NOTHING else (result,)
