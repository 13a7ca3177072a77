"""The source texts that scripts load (point 1305)."""

from warycard.answers import refused
from warycard.checking import check
from warycard.errors import BadProgram, BadSource
from warycard.syntax import parse


class Sources:
    """The packages that were loaded in a run, as other packages see them."""

    def __init__(self):
        self._used = {}

    def core_of(self, text):
        """Return the core tree of a source text and None, or None and the answer if it is refused."""
        try:
            return check(parse(text), self._used), None
        except BadSource:
            return None, refused("source")
        except BadProgram:
            return None, refused("program")

    def note(self, core):
        """Let later packages use a package that was loaded."""
        self._used[core[1]] = (core[2], core[4])
