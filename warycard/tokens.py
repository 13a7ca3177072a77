"""Splits a source text into tokens (points 201 to 205)."""

from warycard.errors import BadSource
from warycard.limits import MOST_INT, MOST_SOURCE
from warycard.texts import is_name, is_printable, is_text

KEYWORDS = (
    "abort", "and", "applet", "as", "begin", "buffer", "bytes", "catch", "class", "commit", "else", "face",
    "field", "has", "if", "int", "is", "mod", "new", "not", "nothing", "null", "of", "or", "package", "return",
    "seek", "size", "temp", "this", "throw", "try", "use", "while",
)

MARKS = (
    "{", "}", "(", ")", "[", "]", ";", ",", ".", "=", "+", "-", "*", "/", "&", "|", "^", "<", ">",
    "<<", ">>", "==", "!=", "<=", ">=",
)


def is_free_name(value):
    """Tell whether a value is a name that is no keyword."""
    return is_name(value) and value not in KEYWORDS


def tokens(text):
    """Return the tuple of all tokens of a text."""
    if not isinstance(text, str) or len(text) > MOST_SOURCE:
        raise BadSource(0, "this is no string, or it is too long")
    found = []
    for line, row in enumerate(text.split("\n"), start=1):
        found.extend(_row_tokens(row, line))
    return tuple(found)


def _row_tokens(row, line):
    # No token goes beyond its line, and a refusal tells nothing but the line,
    # so the whole line may be asked for its characters first.
    if not is_printable(row):
        raise BadSource(line, "a character is not printable")
    found = []
    place = 0
    while place < len(row) and row[place] != "#":
        if row[place] == " ":
            place += 1
        else:
            kind, value, place = _token(row, place, line)
            found.append((kind, value, line))
    return found


def _token(row, place, line):
    """Return the kind and the value of the token at a place, and the place behind it."""
    if row[place].isalnum():
        return _word(row, place, line)
    if row[place] == '"':
        return _text(row, place, line)
    for length in (2, 1):
        mark = row[place:place + length]
        if mark in MARKS:
            return "sign", mark, place + len(mark)
    raise BadSource(line, "a character begins no token")


def _word(row, place, line):
    behind = place
    while behind < len(row) and row[behind].isalnum():
        behind += 1
    word = row[place:behind]
    if word[0].isdigit():
        return "number", _number(word, line), behind
    if not is_name(word):
        raise BadSource(line, "a name is too long")
    return "keyword" if word in KEYWORDS else "name", word, behind


def _number(word, line):
    # The length comes first: Python does not read numbers of thousands of digits.
    if len(word) > len(str(MOST_INT)) or not word.isdigit() or int(word) > MOST_INT:
        raise BadSource(line, "a word that begins with a digit is no number")
    if word[0] == "0" and word != "0":
        raise BadSource(line, "a number has a leading zero")
    return int(word)


def _text(row, place, line):
    end = row.find('"', place + 1)
    if end < 0 or not is_text(row[place + 1:end]):
        raise BadSource(line, "a double quote does not begin a text")
    return "text", row[place + 1:end], end + 1
