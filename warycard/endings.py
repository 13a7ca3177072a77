"""Tells which bodies of core trees end (point 310)."""


def ends(body):
    """Tell whether a body ends."""
    return len(body) > 0 and ends_here(body[-1])


def ends_here(statement):
    """Tell whether no other statement may stand behind this one in its body."""
    match statement:
        case ("return" | "throw", _):
            return True
        case ("if", _, one, other):
            return ends(one) and ends(other)
        case ("try", one, _, other):
            return ends(one) and ends(other)
    return False
