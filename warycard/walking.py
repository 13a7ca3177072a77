"""The places of a method's code that are reached, and the types on the stack there (points 801 and 803)."""

from warycard.effects import Effects, ask_code
from warycard.texts import is_integer

# The types on the stack where a handler begins.
CAUGHT = (("int",),)


def walk(world, module, method):
    """Return the types ahead of the places that are reached, by the places, or raise BadCode."""
    effects = Effects(world, module, method)
    code = method[6]
    for begin, end, at in method[7]:
        ask_code(begin < end <= at < len(code))
    found = {}
    waiting = [(0, ())]
    while len(waiting) > 0:
        place, kinds = waiting.pop()
        if place in found:
            ask_code(found[place] == kinds)
        else:
            found[place] = kinds
            after = _after(effects, method[5], code[place], kinds)
            later = places_behind(code, place)
            for other in later:
                _ask_way(code, place, other)
            waiting.extend([(other, after) for other in later])
            waiting.extend([(at, CAUGHT) for at in handlers_at(method, place) if found.get(at) != CAUGHT])
    return found


def places_behind(code, place):
    """Return the places at which the instruction of a place goes on."""
    match code[place]:
        case ("jump", other):
            return (other,)
        case ("jumpif" | "jumpnot", other):
            return (place + 1, other)
        case ("return" | "returnv" | "throw",):
            return ()
    return (place + 1,)


def handlers_at(method, place):
    """Return the places of the handlers whose ranges have a place."""
    return [at for begin, end, at in method[7] if begin <= place < end]


def _ask_way(code, place, other):
    """Raise BadCode if the instruction of a place cannot go on at another place."""
    ask_code(is_integer(other, 0, len(code) - 1))
    # Only a step may end a ring, so that each ring ends.
    ask_code(other > place or code[other] == ("step",))


def _after(effects, most, instruction, kinds):
    """Return the types that an instruction leaves on a stack."""
    takes, puts = effects.of(instruction)
    left = len(kinds) - len(takes)
    ask_code(left >= 0 and len(kinds) <= most and left + len(puts) <= most)
    for one, other in zip(kinds[left:], takes):
        ask_code(effects.meets(one, other))
    return kinds[:left] + puts
