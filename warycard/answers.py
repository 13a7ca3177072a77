"""What the calls of a card answer, and why they are refused (points 415 to 421)."""

from warycard.limits import MOST_BUFFER, MOST_CHANNELS
from warycard.texts import is_integer, is_text

OFF = ("off",)
OK = ("ok",)


def refused(reason):
    """Return the answer to a call that is refused."""
    return ("refused", reason)


def faulty(code):
    """Return the answer to a call that a fault ends."""
    return ("fault", code)


def load_refusal(name, uses, versions):
    """Return why a package is refused, or None; the versions of those that are there are given by their names."""
    if name in versions:
        return refused("twice")
    if not all([versions.get(package) == version for package, version in uses]):
        return refused("used")
    return None


def make_refusal(name, data, has_class, names, owners):
    """Return why a "make" is refused, or None; the names of the applets and the free owners are given."""
    if not is_text(name):
        return refused("name")
    if not _is_data(data):
        return refused("data")
    if not has_class:
        return refused("class")
    if name in names:
        return refused("taken")
    return refused("places") if len(owners) == 0 else None


def choose_refusal(channel, name, names):
    """Return why a "choose" is refused, or None."""
    if not _is_channel(channel):
        return refused("channel")
    return None if _is_one_of(name, names) else refused("name")


def send_refusal(channel, data, taken):
    """Return why a "send" is refused, or None; what is chosen on the channels is given."""
    if not _is_channel(channel):
        return refused("channel")
    if not _is_data(data):
        return refused("data")
    return refused("empty") if taken[channel] is None else None


def drop_refusal(name, names, taken):
    """Return why a "drop" is refused whose applet is not held, or None."""
    if not _is_one_of(name, names):
        return refused("name")
    return refused("chosen") if name in taken else None


def send_answer(many, values):
    """Return the answer of an applet whose method has a result, if the values of the buffer are given."""
    if not 0 <= many <= MOST_BUFFER:
        return refused("size")
    return ("ok", tuple(values[:many]))


def _is_one_of(name, names):
    return isinstance(name, str) and name in names


def _is_data(value):
    return (
        isinstance(value, tuple)
        and len(value) <= MOST_BUFFER
        and all([is_integer(item, 0, 255) for item in value])
    )


def _is_channel(value):
    return is_integer(value, 0, MOST_CHANNELS - 1)
