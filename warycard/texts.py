"""Integers, printable strings, names and texts (points 101 and 107)."""

from warycard.limits import MOST_NAME, MOST_TEXT


def is_integer(value, least, greatest):
    """Tell whether a value is an integer from least to greatest."""
    if not isinstance(value, int) or isinstance(value, bool):
        return False
    return least <= value <= greatest


def _is_shown(letter):
    # The percent sign is left out by its code.
    return " " <= letter <= "~" and ord(letter) != 37


def is_printable(value):
    """Tell whether a value is a printable string."""
    return isinstance(value, str) and all([_is_shown(letter) for letter in value])


def is_name(value):
    """Tell whether a value is a name, be it a keyword or not."""
    if not isinstance(value, str) or len(value) > MOST_NAME:
        return False
    # The empty string is not alphanumeric, so there is a first character.
    return value.isascii() and value.isalnum() and value[0].isalpha()


def is_text(value):
    """Tell whether a value is a text."""
    return is_printable(value) and 1 <= len(value) <= MOST_TEXT and '"' not in value
