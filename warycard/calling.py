"""The calls of scripts that cards and plain cards have alike (point 1301)."""


def call_card(card, call):
    """Perform a "make", "choose", "send", "drop" or "collect" on a card, and return its answer."""
    match call:
        case ("make", package, class_name, name, data):
            return card.make(package, class_name, name, data)
        case ("choose", channel, name):
            return card.choose(channel, name)
        case ("send", channel, data):
            return card.send(channel, data)
        case ("drop", name):
            return card.drop(name)
    return card.collect()
