"""Point 1206: cards answer like plain cards, also if the power is cut; and point 1308: the judge finds no fault in runs."""

import unittest
from random import Random

from cards import cores_of
from lively import NAMES, Lively
from programs import Programs
from test_plain_and_code import BANK, FAR, CardsTest
from twocards import call, cut_everywhere, pair_of, picture
from warycard.judging import fault
from warycard.scripts import run


class CardsAlikeTest(unittest.TestCase):
    def alike(self, cores, calls, seed):
        improve = seed % 2 == 0
        plain, card = pair_of(cores, improve)
        other = pair_of(cores, improve, True)[1]
        for parts in calls:
            answer = call(plain, parts)
            # A card is given the number of writes up to the next cut.
            rest = parts + (None,) * (parts[0] == "reset")
            self.assertEqual([call(card, rest), call(other, rest)], [answer] * 2, (seed, parts))
            self.assertEqual([picture(card), picture(other)], [picture(plain)] * 2, (seed, parts))
        return card.looks(), other.looks()

    def test_lively_packages(self):
        looks = [0, 0]
        for seed in range(120):
            lively = Lively(seed)
            calls = lively.calls(30)
            calls[20:20] = [("reset",), ("choose", 0, "one"), ("choose", 1, "two")]
            few, all_looks = self.alike(cores_of(*lively.texts()), calls, seed)
            self.assertLessEqual(few, all_looks)
            looks[0] += few
            looks[1] += all_looks
        self.assertGreater(looks[0], 100)
        self.assertGreater(looks[1], 2 * looks[0])

    def test_packages_with_all_expressions(self):
        for seed in range(60):
            cores = [FAR, BANK, Programs(seed).core(room=8), Programs(seed + 10 ** 6).core("other", room=8)]
            classes = [(core[1], core[5][k][0]) for core in cores for k in core[6]]
            if classes:
                calls = [parts for parts in CardsTest().calls(Random(seed), classes) if parts[0] != "cut"]
                self.alike(cores, calls, seed)

    def test_power_cuts(self):
        """Behind each number of writes of each call, the state is that behind some number of effects."""
        writes = 0
        for seed in range(30):
            lively = Lively(1000 + seed)
            plain, card = pair_of(cores_of(*lively.texts()), seed % 2 == 0)
            for parts in lively.calls(11):
                writes += cut_everywhere(self, plain, card, parts)
                self.assertEqual(call(card, parts), call(plain, parts))
                self.assertEqual(picture(card), picture(plain))
        self.assertGreater(writes, 5000)

    def test_power_cuts_here_and_there(self):
        for seed in range(15):
            lively = Lively(2000 + seed)
            plain, card = pair_of(cores_of(*lively.texts()), seed % 2 == 0)
            for parts in lively.calls(14):
                cut_everywhere(self, plain, card, parts, 13)
                call(card, parts)
                call(plain, parts)


def script(seed):
    """Return the calls of a script, with those for the power among them."""
    lively = Lively(seed)
    chance = Random(seed)
    texts = list(lively.texts())
    calls = [("load", text) for text in texts]
    calls[1:1] = [("load", texts[1]), ("load", "package shop 2;"), ("load", "class"), ("load", "")][:chance.randrange(5)]
    for parts in lively.calls(30):
        if chance.random() < 0.3:
            # Numbers that fall into the call, or far behind it.
            calls.append(("cut", chance.choice((0, 1, 2, 3, 5, 8, 13, 40, 70, 100, 9999))))
        calls.append(parts)
        if chance.random() < 0.2:
            for _ in range(chance.choice((0, 0, 1, 2))):
                calls.append(("reset", chance.choice((0, 0, 1, 1, 2, 3))))
            calls.append(("reset", chance.choice((None, None, 9, 30, 100))))
            calls.append(("choose", 0, chance.choice(NAMES)))
    return tuple(calls)


class JudgeOfRunsTest(unittest.TestCase):
    def test_no_fault_in_runs(self):
        off = again = 0
        for seed in range(150):
            calls = script(seed)
            told = run(calls)
            self.assertEqual(len(told), len(calls))
            self.assertIsNone(fault(calls, told), seed)
            off += sum(parts[0] in ("make", "send", "drop", "collect") and entry == (("off",), None) for parts, entry in zip(calls, told))
            again += sum(parts[0] == "reset" and entry == (None, None) for parts, entry in zip(calls, told))
        self.assertGreater(off, 400)
        self.assertGreater(again, 4)

    def test_entries_that_were_changed(self):
        """An answer or a picture that is another one is seen at once, but for what the judge cannot know."""
        for seed in range(10):
            calls = script(seed)
            told = run(calls)
            chance = Random(seed)
            for _ in range(7):
                place = chance.randrange(len(told))
                answer, picture_told = told[place]
                for entry in self.others(answer, picture_told):
                    self.assertEqual(fault(calls, told[:place] + (entry,) + told[place + 1:]), place, (seed, place, entry))
                for many in (place, place + 1):
                    self.assertEqual(fault(calls, told[:many]), None if many == len(calls) else many)
                self.assertEqual(fault(calls[:place], told), place)
                self.assertEqual(fault(calls, told[:place] + ([answer, picture_told],) + told[place + 1:]), place)
                self.assertEqual(fault(calls, told[:place] + ((answer,),) + told[place + 1:]), place)

    def others(self, answer, picture_told):
        """Return entries that cannot stand in the place of one."""
        yield ("done",), picture_told
        yield (list(answer) if answer else ()), picture_told
        yield ("refused", "shape"), picture_told
        if answer is None:
            yield ("off",), picture_told
            yield ("ok",), picture_told
        elif answer != ("off",):
            yield None, picture_told
            yield answer + (None,), picture_told
            yield answer[:-1], picture_told
            yield ("fault", -77), picture_told
        else:
            yield None, None
            yield answer, (((), ()), (0, 0), (None,) * 4)
        if picture_told is not None:
            state, used, chosen = picture_told
            yield answer, (state, used)
            yield answer, [state, used, chosen]
            yield answer, (state, (used[0] + 1, used[1]), chosen)
            yield answer, (state, used, chosen[::-1] + ("x",))
            yield answer, ((state[0] + ((9, "x", 0),), state[1]), used, chosen)
            yield answer, ((state[0], state[1] + (("bytes", 1, ()),)), used, chosen)

    def test_entries_that_were_exchanged(self):
        for seed in range(10):
            calls = script(seed)
            told = run(calls)
            for place in range(len(told) - 1):
                if told[place] != told[place + 1]:
                    other = told[:place] + (told[place + 1], told[place]) + told[place + 2:]
                    found = fault(calls, other)
                    # The judge cannot know in which call the power failed, but then one of the two is wrong.
                    self.assertIn(found, (place, place + 1), (seed, place))


if __name__ == "__main__":
    unittest.main()
