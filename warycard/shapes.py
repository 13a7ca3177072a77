"""The shapes of tuples, asked of any value."""


def is_tuple(value, length):
    """Tell whether a value is a tuple with so many items."""
    return isinstance(value, tuple) and len(value) == length


def begins(value, word, length):
    """Tell whether a value is a tuple with so many items, the first of which is a word."""
    return is_tuple(value, length) and first(value) == word


def first(value):
    """Return the first item of a tuple if it is a string, otherwise the empty string."""
    if not isinstance(value, tuple) or len(value) == 0 or not isinstance(value[0], str):
        return ""
    return value[0]


def is_row(value, test):
    """Tell whether a value is a tuple, and a test holds for each of its items."""
    return isinstance(value, tuple) and all([test(item) for item in value])


def differ(row):
    """Tell whether all items of a row differ."""
    return len(set(row)) == len(row)
