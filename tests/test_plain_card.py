"""Points 400, and 411 to 424: transactions, room, power, and the calls of a plain card."""

import unittest

from cards import OFF, OK, answer, card_of, cores_of, fault, program, ready, refused
from values import ANY
from warycard.limits import ROOM, TRANSACTION
from warycard.plain import PlainCard

KIND = ("class", "p", "A")
NOBODY = (None,) * 4
EMPTY = ((), ())
LOOP = "int i = 0; while (i < {}) {{ i = i + 1; {} }} "


def box(made="", process="return 0;", members="", name="box", uses=""):
    """Return the text of a package with the class A."""
    return (f"package {name} 1; {uses} face F {{ F other(); nothing keep(F f); bytes row(); }} "
            f"class A has F {{ field int n; field F f; field bytes b; field A a; nothing made(int many) {{ {made} }} "
            f"int process(int many) {{ {process} }} F other() {{ return this.f; }} nothing keep(F f) {{ this.f = f; }} "
            f"bytes row() {{ return this.b; }} {members} }} class B {{ field int n; field int m; field int k; }} applet A;")


def is_data(value):
    """Tell whether one of the values of ANY is data."""
    return isinstance(value, tuple) and all([item.__class__ is int and 0 <= item < 256 for item in value])


def held(card, number=0):
    """Return the values of an object in the picture."""
    return card.state()[1][number][2]


class TransactionTest(unittest.TestCase):
    def test_faults(self):
        for body, code in (("begin; begin;", TRANSACTION), ("commit;", TRANSACTION), ("abort;", TRANSACTION),
                           ("begin; commit; commit;", TRANSACTION), ("begin; abort; abort;", TRANSACTION),
                           ("begin; commit; abort;", TRANSACTION), ("begin; abort; commit;", TRANSACTION)):
            self.assertEqual(answer(body), fault(code))
        for body in ("begin; commit;", "begin; abort;", "begin; commit; begin; abort; begin;", "begin;",
                     "begin; try { begin; } catch (e) { commit; }"):
            self.assertEqual(answer(body), ("ok", ()))

    def test_put_back(self):
        ahead = "this.n = 1; this.b = new bytes(2); bytes t = new temp(1); begin; this.n = 2; this.n = 3; this.a = this; "
        ahead += "this.b[1] = 4; t[0] = 5; buffer[5] = 6; this.b = new bytes(1); this.b[0] = 7; "
        for end, n, mine in (("commit; ", 3, True), ("abort; ", 1, False), ("", 1, False), ("if (1) { throw 1; }", 1, False),
                             ("commit; begin; this.n = 9; abort; ", 3, True), ("commit; if (1) { throw 1; }", 3, True)):
            card = ready("if (1) { " + ahead + end + " if (t[0] == 5 and buffer[5] == 6) { return 1; } } return 0;")
            found = card.send(0, ())
            self.assertEqual(found, fault(1) if "throw" in end else ("ok", (0,)))
            values = held(card)
            self.assertEqual(values[0], n)
            self.assertEqual(values[2], ("object", 0) if mine else None)
            self.assertEqual(held(card, 1), (7,) if mine else (0, 0))

    def test_abort_goes_on(self):
        card = ready("this.n = 1; begin; this.n = 2; abort; return this.n;")
        self.assertEqual(card.send(0, ()), ("ok", (0,)))

    def test_transaction_of_all(self):
        # A method of another owner changes its object in the transaction, and may end it.
        text = ("package q 1; use p 1; class C { nothing made(int many) { } int process(int many) { p.F f = seek p.F \"one\"; "
                "begin; f.back(5); %s return 0; } } applet C;")
        first = program("return 0;").replace("int back(int i) { return i; }", "int back(int i) { this.n = i; return i; }")
        for end, n in (("commit;", 5), ("abort;", 0), ("", 0)):
            card = card_of(first, text.replace("%s", end))
            card.make("p", "A", "one", ())
            card.make("q", "C", "two", ())
            card.choose(0, "two")
            self.assertEqual(card.send(0, ()), ("ok", ()))
            self.assertEqual(held(card)[0], n)

    def test_log(self):
        for count, code in ((40, None), (41, TRANSACTION)):
            body = "begin; " + LOOP.format(count, "this.n = i;") + " commit; return 0;"
            card = ready(body)
            self.assertEqual(card.send(0, ()), ("ok", ()) if code is None else fault(code))
            self.assertEqual(held(card)[0], 40 if code is None else 0)
        # The value that was not noted is not changed, and the 40 others stay in the transaction.
        body = "begin; try { " + LOOP.format(41, "this.n = i;") + "} catch (e) { commit; } return this.n;"
        self.assertEqual(answer(body), ("ok", (0,) * 40))
        # Values of bytes are noted, those of temp and of the buffer are not.
        for row, count, code in (("new bytes(1)", 40, None), ("new bytes(1)", 41, TRANSACTION), ("new temp(1)", 300, None),
                                 ("buffer", 300, None)):
            body = f"begin; bytes b = {row}; " + LOOP.format(count, "b[0] = i;") + " commit; return 0;"
            self.assertEqual(answer(body), ("ok", ()) if code is None else fault(code))
        # A new transaction has room for as many.
        body = "int k = 0; while (k < 3) { k = k + 1; begin; " + LOOP.format(40, "this.n = i;") + "commit; } return 0;"
        self.assertEqual(answer(body), ("ok", ()))


class RoomTest(unittest.TestCase):
    def test_objects(self):
        # The applet's object is the first one.
        for count, found in ((59, ("ok", ())), (60, fault(ROOM))):
            self.assertEqual(answer(LOOP.format(count, "D d = new D;")), found)
            self.assertEqual(answer(LOOP.format(count, "bytes b = new temp(0);")), found)

    def test_cells(self):
        # The applet's object has 3 cells and 5 fields.
        for extra, found in ((0, ("ok", ())), (1, fault(ROOM))):
            body = LOOP.format(5, "bytes b = new bytes(64);") + f"bytes c = new temp({400 - 8 - 5 * 67 - 3 + extra});"
            self.assertEqual(answer(body), found)
        for size, found in ((5, ("ok", ())), (6, fault(ROOM))):
            body = LOOP.format(5, "bytes b = new bytes(64);") + f"bytes c = new bytes(46); bytes d = new bytes({size});"
            self.assertEqual(answer(body), found)
        ready_card = ready("return 0;")
        self.assertEqual(ready_card.used(), (8, 1))

    def test_used(self):
        card = ready("A a = new A; bytes b = new bytes(5); bytes c = new temp(7); D d = new D; return 0;")
        self.assertEqual(card.used(), (8, 1))
        card.send(0, ())
        self.assertEqual(card.used(), (8 + 8 + 8 + 10 + 3, 5))
        card.send(0, ())
        self.assertEqual(card.used(), (8 + 2 * 29, 9))
        self.assertEqual(card.collect(), OK)
        self.assertEqual(card.used(), (8, 1))

    def test_size_ahead_of_room(self):
        body = LOOP.format(59, "D d = new D;") + "try { bytes b = new bytes(65); } catch (e) { return 0 - e; }"
        self.assertEqual(answer(body), ("ok", (0,) * 7))


class LoadTest(unittest.TestCase):
    def test_reasons(self):
        first, second, other = cores_of("package p 1; face F { }", "package q 2; use p 1;", "package r 3; use p 1; use q 2;")
        card = PlainCard()
        self.assertEqual(card.load(second), refused("used"))
        self.assertEqual(card.load(other), refused("used"))
        self.assertEqual(card.load(first), OK)
        self.assertEqual(card.load(first), refused("twice"))
        self.assertEqual(card.load(other), refused("used"))
        self.assertEqual(card.load(second), OK)
        self.assertEqual(card.load(other), OK)
        again = ("core", "q", 9, (("none", 1),), (), (), ())
        self.assertEqual(card.load(again), refused("twice"))
        self.assertEqual(card.load(("core", "s", 1, (("p", 2),), (), (), ())), refused("used"))
        self.assertEqual((card.state(), card.used(), card.chosen()), (EMPTY, (0, 0), NOBODY))


class MakeTest(unittest.TestCase):
    def test_reasons_in_order(self):
        card = ready("return 0;")
        good = ("p", "A", "two", (1, 2))
        wrong = (
            (2, "name", [value for value in ANY if not (isinstance(value, str) and value in ("a", "if", "a b"))]
             + ["", "a" * 17, 'a"', "a\n", chr(37)]),
            (3, "data", [value for value in ANY if not is_data(value)]
             + [(256,), (-1,), (True,), (0,) * 65, [1], (1.0,), ("1",)]),
            (0, "class", list(ANY) + ["q", "P"]),
            (1, "class", list(ANY) + ["D", "X", "F", "p", 0]),
        )
        for number, (place, reason, values) in enumerate(wrong):
            for value in values:
                args = list(good)
                args[place] = value
                self.assertEqual(card.make(*args), refused(reason), (place, value))
                for later, _, others in wrong[number + 1:]:
                    if later != place:
                        args[later] = others[0]
                self.assertEqual(card.make(*args), refused(reason))
        self.assertEqual(card.make("p", "A", "one", ()), refused("taken"))
        self.assertEqual(card.make("p", "D", "one", ()), refused("class"))
        self.assertEqual(len(card.state()[0]), 1)
        self.assertEqual(card.used(), (8, 1))
        self.assertEqual(card.make(*good), OK)
        for name in ("a", " ", "a" * 16, "a b", "~!#"):
            self.assertEqual(card.make("p", "A", name, (0,) * 64), OK)

    def test_data(self):
        text = box("this.n = many * 10 + buffer[1]; this.b = new bytes(64); "
                   + LOOP.format(63, "this.b[i] = buffer[i];"))
        card = card_of(text)
        self.assertEqual(card.make("box", "A", "one", (4, 5, 6)), OK)
        self.assertEqual(held(card)[0], 35)
        self.assertEqual(held(card, 1)[:4], (0, 5, 6, 0))
        self.assertEqual(card.make("box", "A", "two", ()), OK)
        # The buffer is filled with 0 behind the data.
        self.assertEqual(held(card, 1)[0], 0)
        self.assertEqual(card.state()[1][1][2][0], 0)
        self.assertEqual(card.make("box", "A", "three", tuple(range(64))), OK)
        row = [values for _, owner, values in card.state()[1] if owner == 3]
        self.assertEqual(row[0][0], 641)
        self.assertEqual(row[1], (0,) + tuple(range(1, 64)))

    def test_owners(self):
        card = card_of(box())
        names = ["a", "b", "c", "d", "e", "f", "g", "h"]
        for name in names:
            self.assertEqual(card.make("box", "A", name, ()), OK)
        self.assertEqual(card.make("box", "A", "i", ()), refused("places"))
        self.assertEqual(card.make("box", "A", "a", ()), refused("taken"))
        self.assertEqual(card.state()[0], tuple((k + 1, name, k) for k, name in enumerate(names)))
        for name in ("f", "c"):
            self.assertEqual(card.drop(name), OK)
        self.assertEqual(card.make("box", "A", "x", ()), OK)
        self.assertEqual(card.make("box", "A", "y", ()), OK)
        self.assertEqual([row[:2] for row in card.state()[0]],
                         list(zip(range(1, 9), ("a", "b", "x", "d", "e", "y", "g", "h"))))
        self.assertEqual(card.make("box", "A", "z", ()), refused("places"))

    def test_fault(self):
        card = card_of(box("this.n = 1; throw many;"))
        self.assertEqual(card.make("box", "A", "one", (1, 2, 3)), fault(3))
        self.assertEqual(card.state(), EMPTY)
        self.assertEqual(card.used(), (7, 1))
        self.assertEqual(card.choose(0, "one"), refused("name"))
        self.assertEqual(card.make("box", "A", "one", ()), fault(0))
        self.assertEqual(card.used(), (14, 2))
        card.collect()
        self.assertEqual(card.used(), (0, 0))

    def test_room(self):
        text = box("int i = 0; while (i < 58) { i = i + 1; bytes b = new bytes(0); }", "return buffer[0];")
        card = card_of(text)
        self.assertEqual(card.make("box", "A", "one", ()), OK)
        self.assertEqual(card.used()[1], 59)
        # There is room for the object of the applet, but not for what "made" makes; then there is none for the object.
        self.assertEqual(card.make("box", "A", "two", ()), fault(ROOM))
        self.assertEqual(card.used()[1], 60)
        self.assertEqual(card.make("box", "A", "two", ()), fault(ROOM))
        self.assertEqual(card.used()[1], 60)
        self.assertEqual([row[:2] for row in card.state()[0]], [(1, "one")])

    def test_kept_by_another_one(self):
        # The second applet gives itself to the first one, and then its making ends with a fault.
        text = box("F first = seek F \"one\"; if (many == 2) { first.keep(this); throw 5; }")
        card = card_of(text)
        self.assertEqual(card.make("box", "A", "one", ()), OK)
        self.assertEqual(card.make("box", "A", "two", (1, 1)), fault(5))
        self.assertEqual([row[1] for row in card.state()[1]], [1, 2])
        self.assertEqual(card.make("box", "A", "three", ()), OK)
        self.assertEqual([row[0] for row in card.state()[0]], [1, 3])
        card.collect()
        self.assertEqual(card.used()[1], 3)
        for name in ("4", "5", "6", "7", "8"):
            self.assertEqual(card.make("box", "A", name, ()), OK)
        self.assertEqual(card.make("box", "A", "9", ()), refused("places"))
        # If the first one keeps another object instead, the owner 2 is free again.
        self.assertEqual(card.drop("8"), OK)
        self.assertEqual(card.make("box", "A", "9", (1, 1)), fault(5))
        self.assertEqual(card.make("box", "A", "9", ()), OK)
        self.assertEqual([row[0] for row in card.state()[0]], [1, 2, 3, 4, 5, 6, 7])

    def test_transaction_is_put_back_ahead_of_the_name(self):
        card = card_of(box("this.n = 1; begin; this.n = 2;"))
        self.assertEqual(card.make("box", "A", "one", ()), OK)
        self.assertEqual(held(card)[0], 1)


class ChooseAndSendTest(unittest.TestCase):
    def test_reasons_of_choose(self):
        card = ready("return 0;")
        for channel in list(ANY) + [4, -1, "0"]:
            if not (isinstance(channel, int) and not isinstance(channel, bool) and 0 <= channel <= 3):
                self.assertEqual(card.choose(channel, "one"), refused("channel"))
                self.assertEqual(card.choose(channel, "none"), refused("channel"))
                self.assertEqual(card.send(channel, ()), refused("channel"))
                self.assertEqual(card.send(channel, None), refused("channel"))
        for name in list(ANY) + ["two", "One"]:
            self.assertEqual(card.choose(1, name), refused("name"))
        self.assertEqual(card.chosen(), ("one", None, None, None))
        for channel in range(4):
            self.assertEqual(card.choose(channel, "one"), OK)
        self.assertEqual(card.chosen(), ("one",) * 4)

    def test_reasons_of_send(self):
        card = ready("return many;")
        for data in list(ANY) + [(256,), (-1,), (True,), [1], (1.0,)]:
            if not is_data(data):
                self.assertEqual(card.send(0, data), refused("data"))
                self.assertEqual(card.send(1, data), refused("data"))
        self.assertEqual(card.send(0, (0,) * 65), refused("data"))
        self.assertEqual(card.send(1, ()), refused("empty"))
        self.assertEqual(card.send(0, (0, 255)), ("ok", (0, 255)))
        self.assertEqual(card.send(0, (9,) * 64), ("ok", (9,) * 64))

    def test_answers(self):
        card = ready("if (many == 0) { return buffer[3]; } if (many == 1) { return 64; } if (many == 2) { return 65; } "
                     "if (many == 3) { this.n = 8; return 0 - 1; } buffer[1] = 300; throw many;")
        self.assertEqual(card.send(0, ()), ("ok", ()))
        self.assertEqual(card.send(0, (5,)), ("ok", (5,) + (0,) * 63))
        self.assertEqual(card.send(0, (5, 6)), refused("size"))
        self.assertEqual(card.send(0, (5, 6, 7)), refused("size"))
        self.assertEqual(held(card)[0], 8)
        self.assertEqual(card.send(0, (1, 2, 3, 4)), fault(4))
        # The buffer is filled anew for each message.
        self.assertEqual(card.send(0, ()), ("ok", ()))

    def test_channels(self):
        card = card_of(box("this.n = buffer[0];", "this.n = this.n + 1; buffer[0] = this.n; return 1;"))
        for k, name in enumerate("abc"):
            card.make("box", "A", name, (10 * k,))
            card.choose(k, name)
        card.choose(3, "b")
        self.assertEqual([card.send(k, ())[1] for k in (0, 1, 2, 3, 3, 1)], [(1,), (11,), (21,), (12,), (13,), (14,)])
        self.assertEqual(card.choose(1, "c"), OK)
        self.assertEqual(card.send(1, ())[1], (22,))
        self.assertEqual(card.chosen(), ("a", "c", "c", "b"))


class DropAndCollectTest(unittest.TestCase):
    def test_reasons(self):
        text = box("", "F f = seek F \"b\"; f.keep(this); return 0;")
        card = card_of(text)
        for name in list(ANY) + ["x"]:
            self.assertEqual(card.drop(name), refused("name"))
        for name in ("a", "b", "c"):
            card.make("box", "A", name, ())
        card.choose(2, "a")
        card.send(2, ())
        self.assertEqual(card.drop("a"), refused("chosen"))
        card.choose(2, "c")
        self.assertEqual(card.drop("a"), refused("held"))
        self.assertEqual(card.drop("c"), refused("chosen"))
        self.assertEqual(card.drop("b"), OK)
        self.assertEqual(card.drop("b"), refused("name"))
        self.assertEqual(card.drop("a"), OK)
        self.assertEqual(card.state()[0], ((3, "c", 0),))
        self.assertEqual(card.used(), (21, 3))
        self.assertEqual(card.collect(), OK)
        self.assertEqual(card.used(), (7, 1))

    def test_held_by_another_object(self):
        # What is held is an object that "a" has made, not its own one.
        text = box("this.b = new bytes(1); A a = new A; a.n = 5; this.f = a;",
                   "F f = seek F \"a\"; if (this != f) { this.f = f.other(); } return 0;")
        card = card_of(text)
        card.make("box", "A", "a", ())
        card.make("box", "A", "b", ())
        self.assertEqual(card.drop("a"), OK)
        self.assertEqual(card.make("box", "A", "a", ()), OK)
        card.choose(0, "b")
        card.send(0, ())
        self.assertEqual(card.drop("a"), refused("held"))

    def test_cycles_and_chains(self):
        card = card_of(box("this.f = this; A a = new A; a.a = a; this.a = a; a.f = this; A gone = new A; gone.a = a;"))
        card.make("box", "A", "one", ())
        self.assertEqual(card.used(), (21, 3))
        card.collect()
        self.assertEqual(card.used(), (14, 2))
        self.assertEqual(card.state(), (((1, "one", 0),), (
            (("class", "box", "A"), 1, (0, ("object", 0), None, ("object", 1))),
            (("class", "box", "A"), 1, (0, ("object", 0), None, ("object", 1))))))

    def test_objects_stay_until_they_are_collected(self):
        card = card_of(box("this.b = new bytes(3);"))
        card.make("box", "A", "one", ())
        card.drop("one")
        self.assertEqual((card.state(), card.used()), (EMPTY, (13, 2)))
        card.reset()
        self.assertEqual(card.used(), (13, 2))
        card.collect()
        self.assertEqual(card.used(), (0, 0))


class StateTest(unittest.TestCase):
    def test_empty(self):
        card = PlainCard()
        self.assertEqual((card.state(), card.used(), card.chosen()), (EMPTY, (0, 0), NOBODY))
        self.assertIsNone(card.reset())
        self.assertIsNone(card.cut(0))
        self.assertEqual(card.collect(), OFF)

    def test_order_of_objects(self):
        text = ("package p 1; class A { field A a; field bytes b; field A c; field int n; nothing made(int k) { if (k == 1) { "
                "A x = new A; A y = new A; bytes t = new temp(2); t[1] = 7; this.c = x; this.b = t; this.a = y; y.b = t; "
                "y.c = this; x.a = y; x.b = new bytes(1); x.n = -3; } } int process(int k) { return 0; } } applet A;")
        card = card_of(text)
        card.make("p", "A", "two", ())
        card.make("p", "A", "one", (1,))
        card.drop("two")
        card.make("p", "A", "three", ())

        def ref(number):
            return ("object", number)
        self.assertEqual(card.state(), (((1, "three", 0), (2, "one", 1)), (
            (KIND, 1, (None, None, None, 0)), (KIND, 2, (ref(2), ref(3), ref(4), 0)), (KIND, 2, (None, ref(3), ref(1), 0)),
            ("temp", 2, (0, 7)), (KIND, 2, (ref(2), ref(5), None, -3)), ("bytes", 2, (0,)))))

    def test_breadth_first(self):
        text = ("package p 1; class A { field A a; field A b; field int n; nothing made(int k) { A x = new A; A y = new A; "
                "x.n = 1; y.n = 2; this.a = x; this.b = y; x.b = new A; x.b.n = 3; y.a = new A; y.a.n = 4; x.b.a = y.a; } "
                "int process(int k) { return 0; } } applet A;")
        card = card_of(text)
        card.make("p", "A", "one", ())
        self.assertEqual([row[2][2] for row in card.state()[1]], [0, 1, 2, 3, 4])

    def test_heirs_and_fields(self):
        text = ("package p 1; class A of B { field bytes more; nothing made(int k) { this.first = k; } int process(int k) "
                "{ return 0; } } class B { field int first; } applet A;")
        card = card_of(text)
        card.make("p", "A", "one", (1, 2))
        self.assertEqual(card.state()[1], ((KIND, 1, (2, None)),))
        self.assertEqual(card.used(), (5, 1))


class ResetTest(unittest.TestCase):
    def test_reset(self):
        card = card_of(box("this.b = new temp(3); this.b[0] = 5; A a = new A; this.a = a; a.b = new bytes(1); a.b[0] = 6; this.n = 1;",
                           "buffer[1] = this.b[0]; return 2;"))
        card.make("box", "A", "one", ())
        card.choose(2, "one")
        self.assertEqual(card.send(2, (1,)), ("ok", (1, 5)))
        self.assertIsNone(card.reset())
        self.assertEqual(card.chosen(), NOBODY)
        self.assertEqual(held(card, 1), (0, 0, 0))
        self.assertEqual(held(card, 3), (6,))
        self.assertEqual(held(card)[0], 1)
        self.assertEqual(card.send(2, ()), refused("empty"))
        card.choose(0, "one")
        self.assertEqual(card.send(0, (1,)), ("ok", (1, 0)))

    def test_reset_forgets_a_cut(self):
        card = card_of(box())
        card.cut(0)
        card.reset()
        self.assertEqual(card.make("box", "A", "one", ()), OK)


def states(make, act):
    """Return what an action leads to behind each number of effects, and the answer with enough of them."""
    found = []
    for effects in range(100):
        card = make()
        card.cut(effects)
        told = act(card)
        if told != OFF:
            return found, told, card.state()
        assert act(card) == OFF
        card.reset()
        found.append(card.state())
    return None


class PowerTest(unittest.TestCase):
    def values(self, body, made="", extra=""):
        """Return the first value of the applet behind each number of effects of a message, and behind the whole."""
        def make():
            card = card_of(box(made + "this.b = new bytes(2); ", body, extra))
            card.make("box", "A", "one", ())
            card.choose(0, "one")
            return card
        found, told, last = states(make, lambda card: (card.choose(0, "one"), card.send(0, ()))[1])
        return [row[1][0][2][0] for row in found], told, last[1][0][2][0]

    def test_effects_of_send(self):
        for body, rows, last in (
            ("return 0;", [], 0),
            ("this.n = 5; return 0;", [0], 5),
            ("this.n = 5; this.n = 5; this.n = 6; return 0;", [0, 5, 5], 6),
            ("buffer[1] = 1; this.n = 1; return 0;", [0], 1),
            ("bytes t = new temp(2); t[0] = 1; this.n = 1; return 0;", [0, 0], 1),
            ("bytes t = new bytes(2); t[0] = 1; this.n = 1; return 0;", [0, 0, 0], 1),
            ("this.n = 1; A a = new A; this.n = 2; return 0;", [0, 1, 1], 2),
            ("this.b[0] = 7; this.n = 1; this.b[1] = 7; this.n = 2; return 0;", [0, 0, 1, 1], 2),
            ("begin; this.n = 1; this.n = 2; commit; return 0;", [0], 2),
            ("this.n = 9; begin; this.n = 1; commit; this.n = 3; return 0;", [0, 9, 1], 3),
            ("begin; commit; begin; buffer[0] = 1; commit; return 0;", [], 0),
            ("begin; this.n = 1; abort; this.n = 4; return 0;", [0], 4),
            ("begin; this.n = 1; abort; begin; commit; return 0;", [], 0),
            ("begin; this.n = 1; A a = new A; this.n = 2; bytes b = new temp(1); commit; return 0;", [0, 0, 0], 2),
            ("this.n = 1; begin; this.n = 2; A a = new A; return 0;", [0, 1], 1),
            ("begin; this.n = 2; return 0;", [], 0),
        ):
            self.assertEqual(self.values(body), (rows, ("ok", ()), last), body)
        self.assertEqual(self.values("this.n = 5; begin; this.n = 6; throw 3;"), ([0], fault(3), 5))
        self.assertEqual(self.values("this.n = 5; return 70;"), ([0], refused("size"), 5))
        self.assertEqual(self.values("try { this.n = 1; this.n = 1 / 0; } catch (e) { this.n = 3; } return 0;"),
                         ([0, 1], ("ok", ()), 3))

    def test_power_is_not_caught(self):
        self.assertEqual(self.values("try { this.n = 1; this.n = 2; } catch (e) { this.n = 3; } return 0;"), ([0, 1], ("ok", ()), 2))

    def test_effects_of_make(self):
        def make():
            return card_of(box("this.n = 4; begin; this.n = 5;"))
        found, told, last = states(make, lambda card: card.make("box", "A", "one", ()))
        self.assertEqual((found, told), ([EMPTY] * 3, OK))
        self.assertEqual(last[1][0][2][0], 4)
        used = []
        for effects in range(3):
            card = make()
            card.cut(effects)
            card.make("box", "A", "one", ())
            card.reset()
            used.append(card.used())
            self.assertEqual(card.make("box", "A", "one", ()), OK)
            self.assertEqual(card.state()[0], ((1, "one", 0),))
        self.assertEqual(used, [(0, 0), (7, 1), (7, 1)])
        found, told, last = states(lambda: card_of(box("throw 3;")), lambda card: card.make("box", "A", "one", ()))
        self.assertEqual((found, told, last), ([EMPTY], fault(3), EMPTY))

    def test_effects_of_drop_and_collect(self):
        def make():
            card = card_of(box("this.b = new bytes(2);"))
            card.make("box", "A", "one", ())
            return card
        whole = make().state()
        self.assertEqual(states(make, lambda card: card.drop("one")), ([whole], OK, EMPTY))
        card = make()
        card.drop("one")
        card.cut(0)
        self.assertEqual(card.collect(), OFF)
        card.reset()
        self.assertEqual(card.used(), (12, 2))
        card.cut(1)
        self.assertEqual(card.collect(), OK)
        self.assertEqual(card.used(), (0, 0))
        self.assertEqual(card.collect(), OFF)

    def test_no_effects(self):
        card = card_of("package q 1;")
        card.cut(0)
        self.assertEqual(card.load(cores_of(box())[0]), OK)
        self.assertEqual(card.choose(0, "one"), refused("name"))
        self.assertEqual(card.send(0, ()), refused("empty"))
        self.assertEqual(card.make("box", "A", "", ()), refused("name"))
        self.assertEqual(card.drop("one"), refused("name"))
        self.assertEqual(card.make("box", "A", "one", ()), OFF)

    def test_cut_over_several_calls(self):
        card = card_of(box("", "this.n = this.n + 1; return 0;"))
        card.cut(4)
        self.assertEqual(card.make("box", "A", "one", ()), OK)
        self.assertEqual(card.choose(0, "one"), OK)
        self.assertEqual([card.send(0, ()) for _ in range(3)], [("ok", ()), ("ok", ()), OFF])
        card.reset()
        self.assertEqual(held(card)[0], 2)

    def test_a_later_cut_replaces_an_earlier_one(self):
        card = card_of(box("", "this.n = this.n + 1; return 0;"))
        card.cut(0)
        self.assertIsNone(card.cut(3))
        self.assertEqual(card.make("box", "A", "one", ()), OK)
        card.choose(0, "one")
        card.cut(1)
        self.assertEqual([card.send(0, ()) for _ in range(2)], [("ok", ()), OFF])

    def test_while_the_power_is_off(self):
        card = card_of(box())
        card.make("box", "A", "one", ())
        card.choose(1, "one")
        before = card.state(), card.used()
        card.cut(0)
        self.assertEqual(card.collect(), OFF)
        for _ in range(2):
            self.assertEqual(card.load(cores_of("package q 1;")[0]), OFF)
            self.assertEqual(card.make("box", "A", "two", ()), OFF)
            self.assertEqual(card.make(None, None, None, None), OFF)
            self.assertEqual(card.choose(0, "one"), OFF)
            self.assertEqual(card.choose(9, "one"), OFF)
            self.assertEqual(card.send(1, ()), OFF)
            self.assertEqual(card.send(None, None), OFF)
            self.assertEqual(card.drop("one"), OFF)
            self.assertEqual(card.drop(None), OFF)
            self.assertEqual(card.collect(), OFF)
            self.assertEqual(card.chosen(), (None, "one", None, None))
            self.assertIsNone(card.cut(9))
            self.assertEqual(card.collect(), OFF)
            self.assertEqual(card.make("box", "A", "two", ()), OFF)
            self.assertEqual(card.drop("one"), OFF)
            self.assertIsNone(card.cut(0))
        self.assertIsNone(card.reset())
        self.assertEqual((card.state(), card.used(), card.chosen()), before + (NOBODY,))
        # The cut while the power was off is forgotten.
        self.assertEqual(card.make("box", "A", "two", ()), OK)

    def test_temp_is_kept_until_the_reset(self):
        card = card_of(box("this.b = new temp(1); this.b[0] = 3;"))
        card.make("box", "A", "one", ())
        self.assertEqual(held(card, 1), (3,))
        card.cut(0)
        card.collect()
        card.reset()
        self.assertEqual(held(card, 1), (0,))


class TwoCardsTest(unittest.TestCase):
    def test_cards_do_not_share(self):
        core = cores_of(box("", "this.n = this.n + 1; return this.n;"))[0]
        one, two = PlainCard(), PlainCard()
        for card in (one, two):
            card.load(core)
            card.make("box", "A", "one", ())
            card.choose(0, "one")
        one.send(0, ())
        one.send(0, ())
        self.assertEqual((held(one)[0], held(two)[0]), (2, 0))
        self.assertEqual(core, cores_of(box("", "this.n = this.n + 1; return this.n;"))[0])


if __name__ == "__main__":
    unittest.main()
