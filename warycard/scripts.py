"""Scripts and their runs (points 1300 to 1305)."""

from warycard.answers import OFF, OK
from warycard.calling import call_card
from warycard.card import Card
from warycard.compiling import build
from warycard.errors import BadScript
from warycard.lines import call_of
from warycard.packing import pack
from warycard.sources import Sources


def parse_script(text):
    """Return the tuple of the calls of a script."""
    if not isinstance(text, str):
        raise BadScript(0, "this is no string")
    calls = []
    # The lines of the source text that is being read, and the line of its "load", or 0 if there is none.
    source = []
    begun = 0
    for number, line in enumerate(text.split("\n"), start=1):
        if begun > 0 and line == "end":
            calls.append(("load", "".join([row + "\n" for row in source])))
            begun = 0
        elif begun > 0:
            source.append(line)
        elif line == "load":
            source = []
            begun = number
        elif line != "" and not line.startswith("#"):
            call = call_of(line)
            if call is None:
                raise BadScript(number, "this line is no call")
            calls.append(call)
    if begun > 0:
        raise BadScript(begun, "the source text has no end")
    return tuple(calls)


def run(calls):
    """Perform calls on a new card, and return the answers and the pictures."""
    card = Card(False)
    sources = Sources()
    found = []
    for call in calls:
        answer = _perform(card, sources, call)
        picture = (card.state(), card.used(), card.chosen()) if card.on() else None
        found.append((answer, picture))
    return tuple(found)


def _perform(card, sources, call):
    """Return what a card answers to a call."""
    match call:
        case ("load", text):
            return _load(card, sources, text)
        case ("cut", writes):
            return card.cut(writes)
        case ("reset", writes):
            return card.reset(writes)
    return call_card(card, call)


def _load(card, sources, text):
    if not card.on():
        return OFF
    core, refusal = sources.core_of(text)
    if refusal is not None:
        return refusal
    answer = card.load(pack(build(core)), None)
    if answer == OK:
        sources.note(core)
    return answer
