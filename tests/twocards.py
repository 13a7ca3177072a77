"""Cards and plain cards side by side, and cards whose power is cut."""

from copy import deepcopy

from warycard.card import Card
from warycard.compiling import build
from warycard.linking import World
from warycard.packing import pack
from warycard.plain import PlainCard

OFF = ("off",)


def twin(card):
    """Return a card like another one, on its own."""
    # The packages are the same for both, as nothing is loaded from here on.
    return deepcopy(card, {id(value): value for value in vars(card).values() if isinstance(value, World)})


def call(card, parts):
    return getattr(card, parts[0])(*parts[1:])


def picture(card):
    return card.state(), card.used(), card.chosen()


def pair_of(cores, improve=True, all_looks=False):
    """Return a plain card and a card that have the same packages."""
    plain, card = PlainCard(), Card(all_looks)
    for core in cores:
        for answer in (plain.load(core), card.load(pack(build(core, improve=improve)), None)):
            if answer != ("ok",):
                raise AssertionError(answer)
    return plain, card


def plain_pictures(plain, parts):
    """Return what there is behind a reset if the power is cut behind 0, 1 and more effects of a call, or not at all."""
    found = []
    while True:
        other = deepcopy(plain)
        other.cut(len(found))
        answer = call(other, parts)
        other.reset()
        found.append((other.state(), other.used()))
        if answer != OFF:
            return found


def without_doubles(row):
    """Return a row without the items that are like those ahead of them."""
    return [item for place, item in enumerate(row) if place == 0 or row[place - 1] != item]


def cut_everywhere(case, plain, card, parts, step=1):
    """Cut the power behind each number of writes of a call; return how many there are."""
    right = plain_pictures(plain, parts)
    answer = call(deepcopy(plain), parts)
    found = []
    writes = 0
    while True:
        other = twin(card)
        other.cut(writes)
        told = call(other, parts)
        if told != OFF:
            case.assertEqual(told, answer)
            case.assertTrue(other.on())
            other.reset(None)
            found.append((other.state(), other.used()))
            break
        case.assertFalse(other.on())
        case.assertEqual(other.chosen(), card.chosen())
        if writes % 5 == 0:
            off_again(case, other, writes)
        other.reset(None)
        case.assertTrue(other.on())
        case.assertEqual(other.chosen(), (None,) * 4)
        found.append((other.state(), other.used()))
        writes += step
    # Each effect happens with one write, and in their order.
    if step == 1:
        case.assertEqual(without_doubles(found), without_doubles(right), parts)
    else:
        places = [place for place, one in enumerate(right) if one in found]
        case.assertTrue(set(map(repr, found)) <= set(map(repr, right)), (parts, places))
    return writes


def off_again(case, card, writes):
    """Let the power fail while it comes back, again and again."""
    for parts in (("make", "bank", "Base", "new", ()), ("choose", 0, "one"), ("send", 0, ()), ("drop", "one"), ("collect",),
                  ("load", (), None)):
        case.assertEqual(call(card, parts), OFF)
    for more in range(4):
        card.cut(9)
        case.assertIsNone(card.reset((writes + more) % 3))
        case.assertEqual(card.chosen(), (None,) * 4)
        if card.on():
            return
