"""Needless looks, and the papers that tell why they are (points 900 to 909)."""

from warycard.outlines import Outline, may_be_foreign
from warycard.owning import Owning, bits, covers, set_bits
from warycard.papers import Papers, ask_paper
from warycard.walking import handlers_at, places_behind

# The instructions that make a look at the lowest value that they take, be it as it may.
LOOKS = ("at", "setat", "size")


def judge(world, name, paper):
    """Return the needless looks of a package, or raise BadPaper."""
    outline = Outline(world, name)
    Papers(outline).ask(paper)
    _, fields, calls, places = paper
    claims = {("field", k, field): True for k, field in fields}
    for number, slots, result in calls:
        claims.update({("param", number, slot): True for slot in slots})
        if result == 1:
            claims[("result", number)] = True
    named = [{} for _ in outline.methods]
    for number, place, slots, stack in places:
        named[number][place] = (slots, stack)
    found = []
    for number, rows in enumerate(named):
        found.extend([(number, place) for place in _judge_method(outline, claims, number, rows)])
    return tuple(found)


def _judge_method(outline, claims, number, rows):
    """Return the places of the needless looks of a method, whose named places are in a dict."""
    owning = Owning(outline, claims, number)
    method = outline.methods[number]
    named = {place: (bits(slots), bits(stack)) for place, (slots, stack) in rows.items()}
    kept = {0: (owning.start(), 0)}
    found = []
    for place in sorted(outline.ways[number]):
        if place in named:
            _ask_kinds(outline.ways[number][place][0], rows[place][1])
            ask_paper(place not in kept or _covers_all(named[place], kept[place]))
            kept[place] = named[place]
        ask_paper(place in kept)
        slots, stack = kept[place]
        slots_after, stack_after, broken = owning.after(place, slots, stack)
        ask_paper(len(broken) == 0)
        for at in handlers_at(method, place):
            ask_paper(at in named and covers(named[at][0], slots))
        later = places_behind(method[6], place)
        if _is_jump(method[6][place]):
            ask_paper(later[-1] in named and _covers_all(named[later[-1]], (slots_after, stack_after)))
            later = later[:-1]
        kept.update({other: (slots_after, stack_after) for other in later})
        if _makes_look(method[6][place]) and owning.is_own(place, stack):
            found.append(place)
    return found


def _ask_kinds(kinds, stack):
    """Raise BadPaper if the values at some places on a stack cannot be foreign."""
    ask_paper(all([place < len(kinds) and may_be_foreign(kinds[place]) for place in stack]))


def _covers_all(one, other):
    return covers(one[0], other[0]) and covers(one[1], other[1])


def _is_jump(instruction):
    return instruction[0] in ("jump", "jumpif", "jumpnot")


def _makes_look(instruction):
    return instruction[0] in LOOKS or instruction[0] in ("is", "as") and instruction[1][0] == "class"


def paper(world, name):
    """Return the paper that claims the most."""
    outline = Outline(world, name)
    claims = outline.claimable()
    found, broken = _spread_all(outline, claims)
    while len(broken) > 0:
        claims = {claim: True for claim in claims if claim not in broken}
        found, broken = _spread_all(outline, claims)
    places = []
    for number, states in enumerate(found):
        for place in _named_places(outline.methods[number], states):
            slots, stack = states[place]
            places.append((number, place, set_bits(slots), set_bits(stack)))
    fields = sorted([claim[1:] for claim in claims if claim[0] == "field"])
    return ("looks", tuple(fields), _calls(outline, claims), tuple(places))


def _calls(outline, claims):
    """Return the rows for the methods of which something is claimed."""
    found = []
    for number, method in enumerate(outline.methods):
        slots = [slot for slot in range(1, 1 + len(method[2])) if ("param", number, slot) in claims]
        result = int(("result", number) in claims)
        if len(slots) > 0 or result == 1:
            found.append((number, tuple(slots), result))
    return tuple(found)


def _spread_all(outline, claims):
    """Return what is loose at the places of each method, and the claims that are broken, as the keys of a dict."""
    found = []
    broken = {}
    for number, _ in enumerate(outline.methods):
        owning = Owning(outline, claims, number)
        states = _spread(owning, outline.methods[number])
        for place, (slots, stack) in states.items():
            broken.update({claim: True for claim in owning.after(place, slots, stack)[2]})
        found.append(states)
    return found, broken


def _spread(owning, method):
    """Return what is loose at each place of a method that is reached, if all ways are taken together."""
    states = {0: (owning.start(), 0)}
    waiting = [0]
    while len(waiting) > 0:
        place = waiting.pop()
        slots, stack = states[place]
        slots_after, stack_after, _ = owning.after(place, slots, stack)
        ways = [(other, slots_after, stack_after) for other in places_behind(method[6], place)]
        ways += [(at, slots, 0) for at in handlers_at(method, place)]
        for other, more_slots, more_stack in ways:
            if other not in states:
                states[other] = (more_slots, more_stack)
                waiting.append(other)
            elif not _covers_all(states[other], (more_slots, more_stack)):
                states[other] = (states[other][0] | more_slots, states[other][1] | more_stack)
                waiting.append(other)
    return states


def _named_places(method, states):
    """Return the places to which jumps and handlers lead, in ascending order."""
    found = []
    for place in states:
        if _is_jump(method[6][place]):
            found.append(places_behind(method[6], place)[-1])
        found.extend(handlers_at(method, place))
    return sorted(set(found))
