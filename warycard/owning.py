"""What the instructions of a method do to what is loose (points 904 and 905).

Which slots and which values on the stack are loose is told by two integers:
the bit with the number of the slot, or of the place on the stack, is set.
A claim is a tuple: ("field", k, field), ("param", method, slot) or
("result", method). Claims are the keys of a dict.
"""

from warycard.outlines import may_be_foreign


class Owning:
    """One method of an outline, as long as some claims hold."""

    def __init__(self, outline, claims, number):
        self._outline = outline
        self._claims = claims
        self._own_number = number
        self._code = outline.methods[number][6]
        self._ways = outline.ways[number]

    def start(self):
        """Return the loose slots at the beginning of the method."""
        _, _, params, _, _, _, _, _ = self._outline.methods[self._own_number]
        loose = []
        for slot, kind in enumerate(params, start=1):
            if may_be_foreign(kind) and ("param", self._own_number, slot) not in self._claims:
                loose.append(slot)
        return bits(loose)

    def after(self, place, slots, stack):
        """Return the loose slots and values behind the instruction of a place, and the claims that it breaks."""
        kinds, takes, puts = self._ways[place]
        height = len(kinds) - len(takes)
        taken = stack >> height
        left = stack - (taken << height)
        instruction = self._code[place]
        broken = self._broken(instruction, taken)
        if instruction[0] == "store":
            return _with_bit(slots, instruction[1], taken), left, broken
        loose = len(puts) == 1 and may_be_foreign(puts[0]) and self._puts_loose(instruction, slots, taken)
        return slots, _with_bit(left, height, int(loose)), broken

    def is_own(self, place, stack):
        """Tell whether the lowest value that the instruction of a place takes is not loose."""
        kinds, takes, _ = self._ways[place]
        return stack >> (len(kinds) - len(takes)) & 1 == 0

    def _puts_loose(self, instruction, slots, taken):
        """Tell whether a value that is put, of a type whose values may be foreign, is loose."""
        match instruction:
            case ("load", slot):
                return slots >> slot & 1 == 1
            case ("get", k, field):
                return ("field", self._outline.first_class(k, field), field) not in self._claims
            case ("callc", k, row):
                called = self._outline.called(k, row)
                return not all([("result", number) in self._claims for number in called])
            case ("as", _):
                return taken == 1
        # Bytes that are made are own, and so is the buffer.
        return instruction[0] in ("callf", "seek")

    def _broken(self, instruction, taken):
        """Return the claims that do not hold if an instruction takes some loose values."""
        if taken == 0:
            return []
        asked = []
        match instruction:
            case ("put", k, field):
                # The object below the value is never loose.
                asked.append(("field", self._outline.first_class(k, field), field))
            case ("callc", k, row):
                loose = set_bits(taken)
                for number in self._outline.called(k, row):
                    asked.extend([("param", number, slot) for slot in loose])
            case ("returnv",):
                asked.append(("result", self._own_number))
        return [claim for claim in asked if claim in self._claims]


def bits(row):
    """Return the integer whose bits with some numbers are set; the numbers differ."""
    return sum([1 << number for number in row])


def set_bits(number):
    """Return the tuple of the numbers of the bits that are set."""
    return tuple([place for place in range(number.bit_length()) if number >> place & 1 == 1])


def covers(one, other):
    """Tell whether an integer has all the bits that another one has."""
    return one | other == one


def _with_bit(number, place, bit):
    """Return an integer whose bit at a place is another one."""
    return number - (number >> place & 1) * (1 << place) + (bit << place)
