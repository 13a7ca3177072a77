"""The integers of the card and their operations (points 105 and 106)."""

from warycard.texts import is_integer

SIGNS = ("+", "-", "*", "/", "mod", "&", "|", "^", "<<", ">>", "==", "!=", "<", "<=", ">", ">=")


def is_word(value):
    """Tell whether a value is a word."""
    return is_integer(value, -32768, 32767)


def wrap(number):
    """Return the word that differs from an integer by a multiple of 65536."""
    return (number + 32768) % 65536 - 32768


def _plus(left, right):
    return wrap(left + right)


def _minus(left, right):
    return wrap(left - right)


def _times(left, right):
    return wrap(left * right)


def _quotient(left, right):
    # Python rounds down, but the card rounds towards 0.
    size = abs(left) // abs(right)
    return size if (left < 0) == (right < 0) else -size


def _divide(left, right):
    return None if right == 0 else wrap(_quotient(left, right))


def _rest(left, right):
    return None if right == 0 else left - right * _quotient(left, right)


def _both_bits(left, right):
    return left & right


def _any_bits(left, right):
    return left | right


def _other_bits(left, right):
    return left ^ right


def _up(left, right):
    return wrap(left << (right & 15))


def _down(left, right):
    return left >> (right & 15)


def _equal(left, right):
    return int(left == right)


def _unequal(left, right):
    return int(left != right)


def _less(left, right):
    return int(left < right)


def _at_most(left, right):
    return int(left <= right)


def _more(left, right):
    return int(left > right)


def _at_least(left, right):
    return int(left >= right)


ACTIONS = {
    "+": _plus,
    "-": _minus,
    "*": _times,
    "/": _divide,
    "mod": _rest,
    "&": _both_bits,
    "|": _any_bits,
    "^": _other_bits,
    "<<": _up,
    ">>": _down,
    "==": _equal,
    "!=": _unequal,
    "<": _less,
    "<=": _at_most,
    ">": _more,
    ">=": _at_least,
}


def op(sign, left, right):
    """Return the result of an operation on two words, or None for a division by 0."""
    action = ACTIONS[sign]
    return action(left, right)
