"""Points 1306 to 1308: the judge of what was told of a run, by hand."""

import unittest

from values import ANY, Rude
from warycard.judging import fault
from warycard.scripts import run

OK, OFF, SIZE = ("ok",), ("off",), ("refused", "size")
NONE = (None,) * 4
NEW = (((), ()), (0, 0), NONE)
SHOP = """package shop 2;
class Shop { field int n; field int m; field bytes t;
    nothing made(int k) { this.t = new temp(1); if (k == 3) { throw 7; } }
    int process(int k) {
        if (k == 0) { this.n = 1; this.m = 2; this.n = 3; return 0; }
        if (k == 1) { begin; this.n = 5; this.m = 6; commit; this.n = 7; return 0; }
        if (k == 2) { this.n = 8; this.t[0] = 9; return 65; }
        if (k == 3) { this.n = 9; throw 9; }
        if (k == 4) { begin; this.n = 11; this.t = new temp(2); this.m = 12; return 0; }
        if (k == 5) { while (this.n < 900) { this.n = this.n + 1; } return 0; }
        buffer[0] = this.t[0];
        return 1;
    }
}
applet Shop;
"""
START = (("load", SHOP), ("make", "shop", "Shop", "one", ()), ("choose", 0, "one"))


def state(n, m, temp=(0,)):
    return (((1, "one", 0),), ((("class", "shop", "Shop"), 1, (n, m, ("object", 1))), ("temp", 1, temp)))


def on(n, m, used=(10, 2), chosen="one", temp=(0,)):
    """Return a picture."""
    return (state(n, m, temp), used, (chosen, None, None, None))


MADE = ((OK, NEW), (OK, on(0, 0, chosen=None)), (OK, on(0, 0)))


class JudgeTest(unittest.TestCase):
    def ask(self, calls, told, right):
        """Tell what the judge finds behind the start."""
        found = fault(START + tuple(calls), MADE + tuple(told))
        self.assertEqual(found, None if right is None else 3 + right, (calls, told))

    def test_the_start(self):
        self.assertEqual(run(START), MADE)
        self.assertIsNone(fault(START, MADE))
        self.assertIsNone(fault((), ()))
        self.assertEqual(fault((("collect",), ("drop", "one")), ((OK, NEW), (OK, None))), 1)

    def test_told_of_any_kind(self):
        for value in ANY:
            if type(value) is tuple and value:
                self.assertEqual(fault(START, value), 0)
                self.assertEqual(fault((), value), 0)
            elif type(value) is tuple:
                self.assertEqual((fault(START, value), fault((), value)), (0, None))
            else:
                self.assertEqual((fault(START, value), fault((), value)), (0, 0))
            for place in range(3):
                self.assertEqual(fault(START, MADE[:place] + (value,) + MADE[place + 1:]), place)
                # The parts of what is told can be compared.
                if not [one for one in (value, *(value if isinstance(value, tuple) else ())) if isinstance(one, Rude)]:
                    for part in range(2):
                        entry = list(MADE[place])
                        entry[part] = value
                        self.assertEqual(fault(START, MADE[:place] + (tuple(entry),) + MADE[place + 1:]), place)
        self.assertEqual(fault(START, list(MADE)), 0)
        self.assertEqual(fault(START, (MADE[0], list(MADE[1]), MADE[2])), 1)
        self.assertEqual(fault(START, (MADE[0], MADE[1] + (None,), MADE[2])), 1)
        self.assertEqual(fault(START, (MADE[0], MADE[1][:1], MADE[2])), 1)

    def test_too_few_and_too_many(self):
        for many in range(3):
            self.assertEqual(fault(START, MADE[:many]), many)
            self.assertEqual(fault(START[:many], MADE), many)
        self.assertEqual(fault(START, MADE + ((OK, NEW),)), 3)
        self.assertEqual(fault(START, MADE + (7,)), 3)
        # An earlier fault comes first.
        self.assertEqual(fault(START, ((OK, None),)), 0)
        self.assertEqual(fault(START, (MADE[0], (OFF, None))), 1)

    def test_values_that_are_equal(self):
        self.ask([("send", 0, (1, 1, 1, 1, 1, 1))], [(("ok", (False,)), on(0, False))], None)
        self.ask([("send", 0, (1, 1, 1, 1, 1, 1))], [(["ok", (0,)], on(0, 0))], 0)
        self.ask([("send", 0, (1, 1, 1, 1, 1, 1))], [(("ok", [0]), on(0, 0))], 0)
        self.ask([("send", 0, (1, 1, 1, 1, 1, 1))], [(("ok", (0,)), list(on(0, 0)))], 0)

    def test_answers_and_pictures(self):
        self.ask([("send", 0, ())], [(("ok", ()), on(3, 2))], None)
        for entry in ((("ok", (0,)), on(3, 2)), (OK, on(3, 2)), (SIZE, on(3, 2)), (None, on(3, 2)), (("ok", ()), on(0, 0)), (("ok", ()), on(3, 3)),
                      (("ok", ()), None), (("ok", ()), on(3, 2, (11, 2))), (("ok", ()), on(3, 2, chosen=None)), (("ok", ()), on(3, 2, temp=(1,)))):
            self.ask([("send", 0, ())], [entry], 0)
        self.ask([("send", 0, (1, 2, 3))], [(("fault", 9), on(9, 0))], None)
        self.ask([("send", 1, ())], [(("refused", "empty"), on(0, 0))], None)
        self.ask([("send", 0, (1, 1))], [(SIZE, on(8, 0, temp=(9,)))], None)
        self.ask([("load", SHOP), ("load", "x"), ("load", "package p 1; use q 1;"), ("load", "package p 1;")],
                 [(("refused", reason), on(0, 0)) for reason in ("twice", "source", "program")] + [(OK, on(0, 0))], None)
        self.ask([("load", "x")], [(("refused", "program"), on(0, 0))], 0)

    def test_loads_that_use_others(self):
        use = "package p 1; use shop 2;"
        self.ask([("load", use), ("load", use.replace("2", "3"))], [(OK, on(0, 0)), (("refused", "program"), on(0, 0))], None)
        self.ask([("load", use)], [(("refused", "used"), on(0, 0))], 0)
        # Of two packages with one name the first one counts.
        other = "package shop 3;"
        self.ask([("load", other), ("load", use)], [(("refused", "twice"), on(0, 0)), (OK, on(0, 0))], None)
        self.ask([("load", other), ("load", "package p 1; use shop 3;")], [(("refused", "twice"), on(0, 0)), (("refused", "program"), on(0, 0))], None)

    def off(self, number, picture, right, call=("send", 0, ()), reset=None, cut=4):
        """Let the power fail in a call, and tell a picture behind the reset."""
        self.ask([("cut", cut), call, ("reset", reset)], [(None, on(0, 0)), (OFF, None), (None, picture)], right)

    def test_each_number_of_effects(self):
        for n, m in ((0, 0), (1, 0), (1, 2), (3, 2)):
            self.off(4, on(n, m, chosen=None), None)
        for n, m in ((3, 0), (0, 2), (2, 2), (3, 3), (4, 2)):
            self.off(4, on(n, m, chosen=None), 2)
        self.off(4, on(0, 0), 2)
        self.off(4, on(0, 0, (10, 3), chosen=None), 2)
        # The judge does not ask after how many writes the power was cut.
        self.off(4, on(3, 2, chosen=None), None, cut=9999)
        self.off(4, on(3, 2, chosen=None), None, cut=0)

    def test_a_transaction_is_there_whole_or_not_at_all(self):
        call = ("send", 0, (1,))
        for n, m in ((0, 0), (5, 6), (7, 6)):
            self.off(4, on(n, m, chosen=None), None, call)
        for n, m in ((5, 0), (0, 6), (7, 0)):
            self.off(4, on(n, m, chosen=None), 2, call)
        # One that is open at the end, and in which an object was made that no one refers to.
        call = ("send", 0, (1, 1, 1, 1))
        self.off(4, on(0, 0, chosen=None), None, call)
        self.off(4, on(0, 0, (15, 3), chosen=None), None, call)
        self.off(4, on(11, 0, chosen=None), 2, call)

    def test_calls_that_are_refused_or_faulty(self):
        # Those that a plain card refuses cannot be off, but for the size.
        self.off(4, on(8, 0, chosen=None), None, ("send", 0, (1, 1)))
        self.off(4, on(0, 0, chosen=None), None, ("send", 0, (1, 1)))
        self.off(4, on(9, 0, chosen=None), None, ("send", 0, (1, 1, 1)))
        for call in (("send", 1, ()), ("send", 9, ()), ("make", "shop", "Shop", "one", ()), ("make", "shop", "Shop", "", ()), ("drop", "two"),
                     ("drop", "one")):
            self.off(4, on(0, 0, chosen=None), 1, call)
        # Those in which the power cannot fail.
        for call in (("choose", 0, "one"), ("load", "package p 1;"), ("load", "x")):
            self.off(4, on(0, 0, chosen=None), 1, call)

    def test_make_drop_and_collect(self):
        make = ("make", "shop", "Shop", "two", ())
        for used in ((10, 2), (16, 3), (20, 4)):
            self.off(4, on(0, 0, used, chosen=None), None, make)
        for used in ((20, 3), (26, 5)):
            self.off(4, on(0, 0, used, chosen=None), 2, make)
        two = (2, "two", 1)
        row = (("class", "shop", "Shop"), 2, (0, 0, ("object", 3)))
        one_state = state(0, 0)
        both = ((one_state[0] + (two,), (one_state[1][0][:2] + ((0, 0, ("object", 2)),), row, ("temp", 1, (0,)), ("temp", 2, (0,)))), (20, 4), NONE)
        self.off(4, both, None, make)
        # The fault ends the call ahead of the name.
        self.off(4, both, 2, ("make", "shop", "Shop", "two", (1, 1, 1)))
        self.off(4, on(0, 0, (20, 4), chosen=None), None, ("make", "shop", "Shop", "two", (1, 1, 1)))
        calls = [("reset", 3), ("drop", "one"), ("reset", None)]
        for picture, right in ((on(0, 0, chosen=None), None), ((((), ()), (10, 2), NONE), None), (NEW, 2)):
            self.ask(calls, [(None, on(0, 0, chosen=None)), (OFF, None), (None, picture)], right)
        calls = [("reset", None), ("drop", "one"), ("cut", 0), ("collect",), ("reset", None)]
        gone = (((), ()), (10, 2), NONE)
        for picture, right in ((gone, None), (NEW, None), (on(0, 0, chosen=None), 4)):
            self.ask(calls, [(None, on(0, 0, chosen=None)), (OK, gone), (None, gone), (OFF, None), (None, picture)], right)

    def test_what_may_let_the_power_fail(self):
        here, send, off = on(0, 0, chosen=None), ("drop", "one"), (OFF, None)
        # Neither a cut nor a reset with a number.
        self.ask([send], [off], 0)
        self.ask([("reset", None), send], [(None, here), off], 1)
        # A cut ahead of the last reset is forgotten.
        self.ask([("cut", 3), ("reset", None), send], [(None, on(0, 0)), (None, here), off], 2)
        self.ask([("cut", 3), ("reset", 3), ("reset", None), send], [(None, on(0, 0)), (None, here), (None, here), off], 3)
        # A cut behind it, or its number.
        self.ask([("reset", None), ("cut", 3), send], [(None, here), (None, here), off], None)
        self.ask([("reset", 0), send], [(None, here), off], None)
        self.ask([("reset", 9999), ("choose", 1, "none"), send], [(None, here), (("refused", "name"), here), off], None)
        # A cut while the power is off.
        self.ask([("reset", 0), send, ("cut", 0), ("reset", None), send], [(None, here), off, (None, None), (None, here), off], 4)
        self.ask([("reset", 0), send, ("cut", 0), ("reset", None), ("cut", 0), send],
                 [(None, here), off, (None, None), (None, here), (None, here), off], None)
        # The picture told must be None.
        self.ask([("reset", 0), send], [(None, here), (OFF, here)], 1)

    def test_while_the_power_is_off(self):
        here, drop, off = on(0, 0, chosen=None), ("drop", "one"), (OFF, None)
        calls = [("reset", 0), drop]
        told = [(None, here), off]
        for call in (("load", SHOP), ("load", "x"), ("make", "a", "b", "", ()), ("choose", 0, "one"), ("send", 9, ()), drop, ("collect",)):
            self.ask(calls + [call] * 2, told + [off] * 2, None)
            for entry in ((OK, None), (OK, here), (OFF, here), (None, None), (("refused", "name"), None), (["off"], None)):
                self.ask(calls + [call], told + [entry], 2)
        self.ask(calls + [("cut", 3)], told + [(None, None)], None)
        for entry in ((None, here), (OFF, None), (OK, None)):
            self.ask(calls + [("cut", 3)], told + [entry], 2)

    def test_cuts_and_resets_with_power(self):
        for call, picture in ((("cut", 3), on(0, 0)), (("reset", None), on(0, 0, chosen=None)), (("reset", 3), on(0, 0, chosen=None))):
            self.ask([call], [(None, picture)], None)
            for entry in ((OK, picture), (OFF, None), (None, None), (None, on(1, 0)), (False, picture), (0, picture)):
                self.ask([call], [entry], 0)
        self.ask([("cut", 3)], [(None, on(0, 0, chosen=None))], 0)
        self.ask([("reset", 3)], [(None, on(0, 0))], 0)
        # The values of the kind temp are 0 behind a reset.
        self.ask([("send", 0, (1, 1)), ("reset", None)], [(SIZE, on(8, 0, temp=(9,))), (None, on(8, 0, chosen=None))], None)
        self.ask([("send", 0, (1, 1)), ("reset", None)], [(SIZE, on(8, 0, temp=(9,))), (None, on(8, 0, chosen=None, temp=(9,)))], 1)

    def test_resets_whose_power_fails(self):
        send, off = ("send", 0, ()), (OFF, None)
        calls, told = [("cut", 0), send], [(None, on(0, 0)), off]
        # Without a number the power is on.
        self.ask(calls + [("reset", None)], told + [(None, None)], 2)
        self.ask(calls + [("reset", 0)], told + [(None, None)], None)
        self.ask(calls + [("reset", 0)] * 3 + [("reset", None)], told + [(None, None)] * 3 + [(None, on(1, 2, chosen=None))], None)
        self.ask(calls + [("reset", 0)] * 3 + [("reset", None)], told + [(None, None)] * 3 + [(None, on(2, 2, chosen=None))], 5)
        self.ask(calls + [("reset", 0), ("reset", 4)], told + [(None, None), (None, on(3, 2, chosen=None))], None)
        self.ask(calls + [("reset", 0), send], told + [(None, None), off], None)
        self.ask(calls + [("reset", 0), send], told + [(None, None), (("refused", "empty"), None)], 3)
        self.ask(calls + [("reset", 0), ("reset", None)], told + [(OFF, None), off], 2)
        # With power no reset lets it fail.
        self.ask([("reset", 0)], [(None, None)], 0)

    def test_what_comes_behind(self):
        """What happened in the call counts from then on."""
        calls = [("cut", 0), ("send", 0, ()), ("reset", None), ("choose", 0, "one"), ("send", 0, (1,) * 6), ("send", 0, (1, 1, 1))]
        for n, m in ((0, 0), (1, 0), (1, 2), (3, 2)):
            told = [(None, on(0, 0)), (OFF, None), (None, on(n, m, chosen=None)), (OK, on(n, m)), (("ok", (0,)), on(n, m)), (("fault", 9), on(9, m))]
            self.ask(calls, told, None)
            for place in range(2, 6):
                self.ask(calls, told[:place] + [(told[place][0], on(4, 4))] + told[place + 1:], place)
        # A call behind two failures.
        calls = [("cut", 0), ("send", 0, ()), ("reset", 3), ("choose", 0, "one"), ("send", 0, (1,)), ("reset", None)]
        for first, second, right in (((1, 2), (1, 2), None), ((1, 2), (5, 6), None), ((1, 0), (7, 6), None), ((1, 2), (5, 2), 5), ((1, 0), (1, 2), 5)):
            told = [(None, on(0, 0)), (OFF, None), (None, on(*first, chosen=None)), (OK, on(*first)), (OFF, None), (None, on(*second, chosen=None))]
            self.ask(calls, told, right)

    def test_long_messages(self):
        """Many effects, of which each may be the last one."""
        call = ("send", 0, (1,) * 5)
        for n in (0, 1, 450, 899, 900):
            self.off(4, on(n, 0, chosen=None), None, call)
        self.off(4, on(901, 0, chosen=None), 2, call)

    def test_the_pictures_of_runs(self):
        for writes in range(14):
            for number in range(7):
                for more in (None, 0, 1):
                    calls = START + (("cut", writes), ("send", 0, (1,) * number), ("reset", more), ("reset", None), ("choose", 0, "one"), ("collect",))
                    told = run(calls)
                    self.assertIsNone(fault(calls, told))
                    for place, entry in enumerate(told):
                        other = told[:place] + told[place + 1:]
                        self.assertIsNotNone(fault(calls, other))
                        doubled = told[:place] + (entry,) + told[place:]
                        self.assertIsNotNone(fault(calls, doubled))


if __name__ == "__main__":
    unittest.main()
