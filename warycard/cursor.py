"""Reads tokens one by one, and the types among them."""

from warycard.errors import BadSource
from warycard.limits import MOST_OPEN


class Cursor:
    """The tokens of a text, with a place among them.

    What reads from a cursor decides by the next token alone, and takes it only
    if a text of a package may begin with the tokens up to it. So the token that
    is refused is the one of point 211.
    """

    def __init__(self, row, last):
        self._row = row
        # The end of the text stands in its last line, as point 211 asks.
        self._end = ("end", "", last)
        self._place = 0
        self._brackets = 0

    def token(self):
        """Return the next token."""
        return self._row[self._place] if self._place < len(self._row) else self._end

    def word(self):
        """Return the next token's keyword or sign, or the empty string if it is neither."""
        kind, value, _ = self.token()
        return value if kind in ("keyword", "sign") else ""

    def sees(self, kind):
        """Tell whether the next token is of a kind."""
        return self.token()[0] == kind

    def take(self):
        """Step behind the next token, which is no bracket, and return its value."""
        value = self.token()[1]
        self._place += 1
        return value

    def expect(self, word):
        """Step behind a keyword or a sign."""
        if self.word() != word:
            self.refuse()
        if word in ("(", "[", "{"):
            if self._brackets == MOST_OPEN:
                self.refuse()
            self._brackets += 1
        elif word in (")", "]", "}"):
            self._brackets -= 1
        self._place += 1

    def skips(self, word):
        """Step behind a keyword or a sign if it comes next, and tell whether it did."""
        if self.word() != word:
            return False
        self.expect(word)
        return True

    def value(self, kind):
        """Step behind a token of a kind, and return its value."""
        if not self.sees(kind):
            self.refuse()
        return self.take()

    def refuse(self):
        """Refuse the next token."""
        kind, value, line = self.token()
        raise BadSource(line, f"the {kind} {value} cannot stand here")


def read_row(cursor, read):
    """Read one or more of the same kind, with commas between them."""
    found = [read(cursor)]
    while cursor.skips(","):
        found.append(read(cursor))
    return tuple(found)


def read_named(cursor):
    """Read a named type."""
    name = cursor.value("name")
    if cursor.skips("."):
        return ("of", name, cursor.value("name"))
    return ("name", name)


def read_kind(cursor):
    """Read a type."""
    if cursor.word() in ("int", "bytes"):
        return cursor.take()
    return read_named(cursor)
