"""The judge of what was told of a run (points 1306 to 1308)."""

from warycard.answers import OFF, OK, refused
from warycard.calling import call_card
from warycard.plain import PlainCard
from warycard.sources import Sources

# The calls in which the power may fail.
EFFECTIVE = ("make", "send", "drop", "collect")


class Judge:
    """The plain cards that explain what was told up to a call.

    While the power is on, one plain card is enough: all that have the picture
    that was told answer alike from then on, as the picture has all that the
    applets lead to, and the room that the rest takes. While it is off, there is
    the card as it was ahead of the call in which the power failed; which of the
    effects of this call happened is found out when a picture is told again.
    """

    def __init__(self):
        self._card = PlainCard()
        self._sources = Sources()
        # The call in which the power failed, or None if it is on.
        self._failed = None
        self._may_fail = False

    def explains(self, call, answer, picture):
        """Tell whether a plain card is left behind a call, and all is as it must be."""
        if call[0] == "cut":
            self._may_fail = True
            return answer is None and self._has_picture(picture)
        if call[0] == "reset":
            return answer is None and self._explains_reset(call[1], picture)
        if self._failed is not None:
            return answer == OFF and picture is None
        if answer == OFF:
            return self._explains_failure(call, picture)
        return self._answer(call) == answer and self._has_picture(picture)

    def _has_picture(self, picture):
        if self._failed is not None:
            return picture is None
        return picture_of(self._card) == picture

    def _explains_failure(self, call, picture):
        if call[0] not in EFFECTIVE or not self._may_fail or picture is not None:
            return False
        self._failed = call
        done = call_card(self._card.copy(), call)
        return done[0] != "refused" or done == refused("size")

    def _explains_reset(self, writes, picture):
        self._may_fail = writes is not None
        if self._failed is None:
            self._card.reset()
            return self._has_picture(picture)
        if picture is None:
            return writes is not None
        card = self._card.copy()
        card.watch(Watcher(card, picture))
        call_card(card, self._failed)
        card.reset()
        self._card = card
        self._failed = None
        return self._has_picture(picture)

    def _answer(self, call):
        """Return what the plain card answers to a call that is no "cut" and no "reset"."""
        return self._load(call[1]) if call[0] == "load" else call_card(self._card, call)

    def _load(self, text):
        core, refusal = self._sources.core_of(text)
        if refusal is not None:
            return refusal
        answer = self._card.load(core)
        if answer == OK:
            self._sources.note(core)
        return answer


class Watcher:
    """Stops the first effect of a card ahead of which it would have a picture behind a reset."""

    def __init__(self, card, picture):
        self._card = card
        self._picture = picture

    def stops(self):
        """Tell whether the power fails in the place of the effect that comes next."""
        other = self._card.copy()
        other.reset()
        return picture_of(other) == self._picture


def picture_of(card):
    """Return the picture of a card behind a call."""
    return (card.state(), card.used(), card.chosen())


def fault(calls, told):
    """Return the number of the first call that is not explained, or None."""
    if not isinstance(told, tuple):
        return 0
    judge = Judge()
    for number, (call, entry) in enumerate(zip(calls, told)):
        if not isinstance(entry, tuple) or len(entry) != 2:
            return number
        answer, picture = entry
        if not judge.explains(call, answer, picture):
            return number
    return None if len(calls) == len(told) else min(len(calls), len(told))
