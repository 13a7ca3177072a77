"""Points 1200 to 1206: the card."""

import unittest

from cards import cores_of, fault, refused
from lively import Lively
from test_machine import BANK as TILLS
from test_machine import own
from twocards import call, cut_everywhere, pair_of, picture
from values import ANY
from warycard.card import Card
from warycard.compiling import build
from warycard.linking import World
from warycard.looks import judge, paper
from warycard.packing import pack
from warycard.plain import PlainCard

OK, OFF = ("ok",), ("off",)
BANK = "package bank 1; face Pay { int pay(int n); bytes row(); }"
# An applet that does what the first number of a message says.
SHOP = """package shop 2; use bank 1;
class Item { field int n; field bytes b; }
class Shop has bank.Pay {
    field int n; field bytes b; field bytes t; field Item item; field bank.Pay other;
    nothing made(int many) { this.b = new bytes(3); this.t = new temp(3); this.n = many; if (buffer[0] == 9) { throw 5; } }
    int pay(int n) { this.n = this.n + n; return this.n; }
    bytes row() { return this.b; }
    int process(int many) {
        int what = buffer[0];
        if (what == 0) { this.n = this.n + 1; this.b[0] = 7; this.t[1] = 8; buffer[1] = this.t[1]; buffer[2] = this.n; return 3; }
        if (what == 1) { throw buffer[1]; }
        if (what == 2) { return buffer[1] - 1; }
        if (what == 3) { begin; this.n = 100; this.b[1] = 1; if (buffer[1]) { commit; } this.n = this.n + 1; return 0; }
        if (what == 4) { this.other = seek bank.Pay "two"; buffer[0] = this.other.pay(5); return 1; }
        if (what == 5) { this.item = new Item; this.item.b = new bytes(2); this.item = new Item; return 0; }
        if (what == 6) { buffer[0] = this.other.row()[0]; return 1; }
        if (what == 7) { while (1) { this.n = this.n + 1; } }
        if (what == 8) { buffer[0] = this.t[1]; buffer[1] = this.b[0]; buffer[2] = buffer[63]; return 3; }
        return 65;
    }
}
applet Shop;"""


def both(*texts, all_looks=False):
    """Return a plain card and a card with packages."""
    return pair_of(cores_of(*texts), True, all_looks)


class LoadTest(unittest.TestCase):
    def setUp(self):
        self.card = Card(False)
        self.bank, self.shop = [build(core) for core in cores_of(BANK, SHOP)]

    def load(self, module, given=None):
        return self.card.load(pack(module), given)

    def test_in_order(self):
        self.assertEqual(self.load(self.shop), refused("used"))
        self.assertEqual(self.load(self.bank), OK)
        self.assertEqual(self.load(self.shop), OK)
        self.assertEqual(self.load(self.shop), refused("twice"))
        # A package with the same name comes ahead of one that it uses and that is not there.
        self.assertEqual(self.load(("module", "bank", 7, (("none", 1),), (), (), (), ())), refused("twice"))
        self.assertEqual(self.load(("module", "more", 7, (("bank", 2),), (), (), (), ())), refused("used"))
        self.assertEqual(self.load(("module", "more", 7, (("bank", 1), ("none", 1)), (), (), (), ())), refused("used"))
        self.assertEqual(self.load(("module", "more", 7, (("bank", 1),), (), (), (), ())), OK)

    def test_bytes_that_are_none(self):
        right = pack(self.bank)
        for row in ANY + (right[:-1], right + (0,), right[:5] + (right[5] + 1,) + right[6:], list(right), (right,), right[1:],
                          tuple(float(byte) for byte in right), (256,) + right[1:]):
            self.assertEqual(self.card.load(row, None), refused("package"))
            self.assertEqual(self.card.load(row, 7), refused("package"))
        # A package that was there keeps its name, whatever the bytes are.
        self.assertEqual(self.card.load(right, None), OK)
        self.assertEqual(self.card.load(right[:-1], None), refused("package"))

    def test_link(self):
        self.load(self.bank)
        head = ("pay", (("int",),), ("int",))
        method = (0,) + head + ((), 1, (("load", 1), ("returnv",)), ())
        wrong = ("module", "more", 1, (("bank", 1),), (), (("C", -1, (("face", "bank", "Pay"),), (), (head + (0,),)),), (method,), ())
        self.assertEqual(self.load(wrong), refused("link"))
        wrong = ("module", "more", 1, (("bank", 1),), (), (("C", -1, (("face", "bank", "Buy"),), (), (head + (0,),)),), (method,), ())
        self.assertEqual(self.load(wrong, 7), refused("link"))
        # The code is not looked at, and nothing is there now.
        wrong = ("module", "more", 1, (("bank", 1),), (), (("C", -1, (), (), (head + (0,),)),), (method,), (0,))
        self.assertEqual(self.load(wrong), refused("link"))
        self.assertEqual(self.load(wrong[:-1] + ((),)), OK)

    def test_code(self):
        head = ("m", (), ("nothing",))
        for code, stack in (((("pop",), ("return",)), 0), ((("const", 1), ("return",)), 0), ((("begin",),), 0), ((("jump", 0),), 0)):
            method = (0,) + head + ((), stack, code, ())
            module = ("module", "more", 1, (), (), (("C", -1, (), (), (head + (0,),)),), (method,), ())
            self.assertEqual(self.load(module), refused("code"))
            self.assertEqual(self.load(module, 7), refused("code"))
        method = (0,) + head + ((), 0, (("return",),), ())
        module = ("module", "more", 1, (), (), (("C", -1, (), (), (head + (0,),)),), (method,), ())
        self.assertEqual(self.load(module), OK)

    def test_papers(self):
        world = World()
        world.add(self.bank)
        world.add(self.shop)
        best = paper(world, "shop")
        looks = judge(world, "shop", best)
        self.assertGreater(len(looks), 5)
        fields = best[:1] + ((),) + best[2:]
        for given, right in ((None, OK), (best, OK), (fields, None), (best[:2] + ((),) + best[3:], None), (best[:3] + ((),), refused("paper")),
                             (best[:1] + (((1, 1), (1, 2), (1, 4)),) + best[2:], refused("paper")), ((), refused("paper"))):
            self.setUp()
            self.load(self.bank)
            answer = self.load(self.shop, given)
            if right is None:
                self.assertIn(answer, (OK, refused("paper")))
            else:
                self.assertEqual(answer, right, given)
            # What was refused may come again.
            self.assertEqual(self.load(self.shop), refused("twice") if answer == OK else OK)

    def test_papers_of_any_value(self):
        self.load(self.bank)
        for value in ANY:
            if value is not None:
                self.assertEqual(self.load(self.shop, value), refused("paper"))
        self.assertEqual(self.load(self.shop), OK)

    def test_papers_that_claim_less(self):
        """The fewer looks are needless, the more are made; the answers are the same."""
        world = World()
        world.add(self.bank)
        world.add(self.shop)
        best = paper(world, "shop")
        places = []
        for number, place, _, stack in best[3]:
            method = self.shop[6][number]
            kinds = (("class", method[0]),) + method[2] + method[4]
            places.append((number, place, tuple(slot for slot, kind in enumerate(kinds) if kind[0] in ("bytes", "face")), stack))
        # A claim of nothing at all.
        least = ("looks", (), (), tuple(places))
        self.assertLess(len(judge(world, "shop", least)), len(judge(world, "shop", best)))
        looks, answers = [], []
        for all_looks, given in ((False, None), (False, best), (False, least), (True, None), (True, best), (True, least)):
            card = Card(all_looks)
            self.assertEqual(card.load(pack(self.bank), None), OK)
            self.assertEqual(card.load(pack(self.shop), given), OK)
            answers.append([call(card, parts) for parts in (("make", "shop", "Shop", "one", ()), ("choose", 0, "one"), ("send", 0, (0,)))])
            looks.append(card.looks())
        self.assertEqual(answers, answers[:1] * 6)
        self.assertEqual(looks[0], looks[1])
        self.assertEqual(looks[3:], looks[3:4] * 3)
        self.assertLess(looks[0], looks[2])
        self.assertLess(looks[2], looks[3])
        # The paper is asked for also if all looks are made.
        card = Card(True)
        card.load(pack(self.bank), None)
        self.assertEqual(card.load(pack(self.shop), ("looks",)), refused("paper"))

    def test_code_that_no_compiler_made(self):
        code = (("load", 1), ("jumpif", 4), ("const", 6), ("returnv",), ("const", 7), ("returnv",))
        self.assertEqual(self.card.load(pack(TILLS), None), OK)
        self.assertEqual(self.card.load(pack(own(code)), None), OK)
        self.assertEqual(self.card.make("own", "A", "one", ()), refused("class"))


class CallsTest(unittest.TestCase):
    def setUp(self):
        self.plain, self.card = both(BANK, SHOP)

    def do(self, *parts):
        """Do a call on both cards, and return the answer."""
        answer = call(self.plain, parts)
        told = call(self.card, parts + (None,) * (parts[0] == "reset"))
        self.assertEqual(told, answer, parts)
        self.assertEqual(picture(self.card), picture(self.plain))
        return answer

    def test_a_new_card(self):
        for card in (Card(False), Card(True)):
            self.assertEqual(picture(card), picture(PlainCard()))
            self.assertIs(card.on(), True)
            self.assertEqual(card.looks(), 0)
            self.assertIsNone(card.cut(3))
            self.assertIsNone(card.reset(None))
            self.assertIsNone(card.reset(3))
            self.assertIs(card.on(), True)

    def test_make(self):
        self.assertEqual(self.do("make", "shop", "Shop", "one", (1, 2)), OK)
        self.assertEqual(self.card.state(), (((1, "one", 0),), ((("class", "shop", "Shop"), 1, (2, ("object", 1), ("object", 2), None, None)),
                                                                 ("bytes", 1, (0, 0, 0)), ("temp", 1, (0, 0, 0)))))
        self.assertEqual(self.card.used(), (8 + 6 + 6, 3))
        self.assertEqual(self.do("make", "shop", "Shop", "fails", (9,)), fault(5))
        self.assertEqual(self.do("make", "shop", "Shop", "x" * 16, (0,) * 64), OK)
        # The object of an applet that was not made is free room behind a collection.
        self.assertEqual([row[0] for row in self.card.state()[0]], [1, 2])
        self.do("collect")

    def test_reasons_of_make(self):
        """In the order in which they are named, whatever the others are."""
        for name in ("", "x" * 17, 'a"b', "a" + chr(37), "\n", "\u00e9", 7, None, b"one", ("one",)):
            for data in ((), (256,), None):
                for package in ("shop", "none", 7):
                    self.assertEqual(self.do("make", package, "Shop", name, data), refused("name"))
        for data in ((256,), (-1,), (True,), (1.0,), ("1",), [1], None, (0,) * 65, 7, b"a", (None,)):
            for package in ("shop", "none", []):
                self.assertEqual(self.do("make", package, "Shop", "one", data), refused("data"))
        self.do("make", "shop", "Shop", "one", ())
        for package, class_name in (("none", "Shop"), ("shop", "Item"), ("shop", "shop"), ("bank", "Pay"), (7, "Shop"), ("shop", 7), ([], {}),
                                    (None, None), (("shop",), "Shop"), ("shop", ("Shop",))):
            for name in ("one", "two"):
                self.assertEqual(self.do("make", package, class_name, name, ()), refused("class"))
        for number in range(2, 9):
            self.assertEqual(self.do("make", "shop", "Shop", "one", ()), refused("taken"))
            self.assertEqual(self.do("make", "shop", "Shop", str(number), ()), OK)
        self.assertEqual(self.do("make", "shop", "Shop", "one", ()), refused("taken"))
        self.assertEqual(self.do("make", "shop", "Shop", "nine", ()), refused("places"))
        self.do("drop", "5")
        self.assertEqual(self.do("make", "shop", "Shop", "nine", ()), OK)
        self.assertEqual([row[0:2] for row in self.card.state()[0]][4], (5, "nine"))

    def test_any_values(self):
        self.do("make", "shop", "Shop", "one", ())
        for value in ANY:
            answers = [self.card.make(value, "Shop", "two", ()), self.card.make("shop", value, "two", ()),
                       self.card.choose(0, value), self.card.drop(value), self.card.choose(value, "none"), self.card.send(value, None)]
            self.assertEqual(answers[:2], [refused("class")] * 2)
            self.assertEqual(answers[2:4], [refused("name")] * 2)
            if type(value) is not int or not 0 <= value < 4:
                self.assertEqual(answers[4:], [refused("channel")] * 2)
            is_data = type(value) is tuple and all(type(item) is int for item in value)
            self.assertEqual(self.card.send(0, value), refused("empty" if is_data else "data"))
            self.assertEqual(self.card.make("none", "Shop", "two", value), refused("class" if is_data else "data"))
            is_text = type(value) is str and value in ("a", "if", "a b")
            self.assertEqual(self.card.make("none", "Shop", value, ()), refused("class" if is_text else "name"))

    def test_choose_and_send(self):
        for channel in (-1, 4, True, None, "0", 0.0):
            self.assertEqual(self.do("choose", channel, "one"), refused("channel"))
            self.assertEqual(self.do("send", channel, None), refused("channel"))
        self.assertEqual(self.do("choose", 0, "one"), refused("name"))
        for data in ((256,), [1], (0,) * 65):
            self.assertEqual(self.do("send", 0, data), refused("data"))
        self.assertEqual(self.do("send", 0, ()), refused("empty"))
        self.do("make", "shop", "Shop", "one", (1,))
        self.do("make", "shop", "Shop", "two", ())
        self.assertEqual(self.do("choose", 3, "one"), OK)
        self.assertEqual(self.do("choose", 0, "two"), OK)
        self.assertEqual(self.card.chosen(), ("two", None, None, "one"))
        self.assertEqual(self.do("send", 3, (0,)), ("ok", (0, 8, 2)))
        self.assertEqual(self.do("send", 3, (0,)), ("ok", (0, 8, 3)))
        self.assertEqual(self.do("send", 0, (0, 5)), ("ok", (0, 8, 1)))
        self.assertEqual(self.do("send", 2, ()), refused("empty"))
        # The buffer has zeros behind the data, whatever stood there.
        self.assertEqual(self.do("send", 3, (8,)), ("ok", (8, 7, 0)))
        self.assertEqual(self.do("send", 3, (0,) * 64)[1][2], 4)

    def test_all_applets_with_long_names(self):
        """The cells of the names, of the journal and of the objects do not overlap."""
        names = [letter * 16 for letter in "~}|{zyxw"]
        for name in names:
            self.assertEqual(self.do("make", "shop", "Shop", name, ()), OK)
        for name in names:
            self.do("choose", 0, name)
            for data in ((3, 0), (3, 1), (0,), (5,)):
                self.do("send", 0, data)
            self.do("collect")

    def test_sizes_of_answers(self):
        self.do("make", "shop", "Shop", "one", ())
        self.do("choose", 0, "one")
        for size in (0, 1, 64, 65):
            data = (2, size + 1) + (7,) * 62
            right = ("ok", data[:size]) if size < 65 else refused("size")
            self.assertEqual(self.do("send", 0, data), right)
        self.assertEqual(self.do("send", 0, (2, 0)), refused("size"))
        self.assertEqual(self.do("send", 0, (77,)), refused("size"))

    def test_faults(self):
        self.do("make", "shop", "Shop", "one", ())
        self.do("choose", 0, "one")
        for number in (0, 5, 255):
            self.assertEqual(self.do("send", 0, (1, number)), fault(number))
        self.assertEqual(self.do("send", 0, (7,)), fault(-10))
        self.assertEqual(self.do("send", 0, (4,)), fault(-1))
        self.do("make", "shop", "Shop", "two", ())
        self.assertEqual(self.do("send", 0, (4,)), ("ok", (5,)))
        self.assertEqual(self.do("send", 0, (6,)), fault(-5))

    def test_transactions_that_are_open_at_the_end(self):
        self.do("make", "shop", "Shop", "one", ())
        self.do("choose", 0, "one")
        self.assertEqual(self.do("send", 0, (3, 0)), ("ok", ()))
        self.assertEqual(self.card.state()[1][0][2][0], 0)
        self.assertEqual(self.do("send", 0, (3, 1)), ("ok", ()))
        self.assertEqual(self.card.state()[1][0][2][0], 101)

    def test_no_room(self):
        """The fault comes ahead of all else, and the buffer is not filled."""
        for number in range(20):
            self.do("make", "shop", "Shop", "fails", (9,))
        self.assertEqual(self.card.used(), (400, 60))
        self.assertEqual(self.do("make", "shop", "Shop", "one", ()), fault(-6))
        self.assertEqual(self.do("collect"), OK)
        self.assertEqual(self.card.used(), (0, 0))
        self.assertEqual(self.do("make", "shop", "Shop", "one", ()), OK)

    def test_drop_and_collect(self):
        self.do("make", "shop", "Shop", "one", ())
        self.do("make", "shop", "Shop", "two", ())
        self.do("choose", 1, "one")
        self.do("send", 1, (4,))
        self.do("send", 1, (5,))
        self.assertEqual(self.do("drop", "none"), refused("name"))
        self.assertEqual(self.do("drop", "one"), refused("chosen"))
        self.assertEqual(self.do("drop", "two"), refused("held"))
        self.do("choose", 2, "two")
        self.assertEqual(self.do("drop", "two"), refused("chosen"))
        used = self.card.used()
        self.assertEqual(self.do("collect"), OK)
        self.assertEqual(self.card.used(), (used[0] - 10, used[1] - 2))
        self.do("reset")
        self.assertEqual(self.do("drop", "one"), OK)
        self.assertEqual(self.card.used()[1], 7)
        self.assertEqual(self.do("drop", "two"), OK)
        self.assertEqual(self.do("drop", "two"), refused("name"))
        self.do("make", "shop", "Shop", "three", ())
        self.do("collect")
        self.assertEqual(self.card.used(), (20, 3))

    def test_temps_behind_a_reset(self):
        self.do("make", "shop", "Shop", "one", ())
        self.do("choose", 0, "one")
        self.do("send", 0, (0,))
        self.do("collect")
        self.assertEqual(self.do("send", 0, (8,)), ("ok", (8, 7, 0)))
        self.do("reset")
        self.assertEqual(self.card.chosen(), (None,) * 4)
        self.do("choose", 0, "one")
        self.assertEqual(self.do("send", 0, (8,)), ("ok", (0, 7, 0)))

    def test_looks(self):
        few, many = Card(False), Card(True)
        for card in (few, many):
            for core in cores_of(BANK, SHOP):
                self.assertEqual(card.load(pack(build(core)), None), OK)
            card.make("shop", "Shop", "one", ())
            card.make("shop", "Shop", "two", ())
            card.choose(0, "one")
        self.assertEqual((few.looks(), many.looks()), (0, 2))
        for card in (few, many):
            card.send(0, (0,))
        self.assertEqual((few.looks(), many.looks()), (0, 8))
        for card in (few, many):
            card.send(0, (4,))
            # What another owner gives back is foreign.
            self.assertEqual(card.send(0, (6,)), fault(-5))
        self.assertEqual((few.looks(), many.looks()), (1, 12))
        for card in (few, many):
            card.reset(None)
            self.assertEqual(card.send(0, ()), refused("empty"))
        self.assertEqual((few.looks(), many.looks()), (1, 12))


class PowerTest(unittest.TestCase):
    def setUp(self):
        self.plain, self.card = both(BANK, SHOP)
        self.do("make", "shop", "Shop", "one", (1, 1))
        self.do("make", "shop", "Shop", "two", ())
        self.do("choose", 0, "one")
        self.do("send", 0, (5,))

    def do(self, *parts):
        answer = call(self.plain, parts)
        self.assertEqual(call(self.card, parts), answer)
        return answer

    def test_cuts_everywhere(self):
        for parts in (("make", "shop", "Shop", "three", (1,)), ("make", "shop", "Shop", "fails", (9,)), ("send", 0, (0,)), ("send", 0, (3, 0)),
                      ("send", 0, (3, 1)), ("send", 0, (4,)), ("send", 0, (5,)), ("send", 0, (1, 7)), ("send", 0, (77,)), ("drop", "two"),
                      ("collect",), ("choose", 0, "none"), ("drop", "one"), ("send", 3, ())):
            with self.subTest(parts):
                writes = cut_everywhere(self, self.plain, self.card, parts)
                if parts[0] == "drop":
                    self.assertEqual(writes, int(parts[1] == "two"))
                if parts[0] == "choose":
                    self.assertEqual(writes, 0)

    def test_long_messages(self):
        self.assertEqual(cut_everywhere(self, self.plain, self.card, ("send", 0, (7,)), 97), 1067)

    def test_lively_cards(self):
        lively = Lively(5)
        plain, card = pair_of(cores_of(*lively.texts()))
        for parts in lively.calls(9):
            cut_everywhere(self, plain, card, parts)
            call(plain, parts)
            call(card, parts)

    def test_off(self):
        self.card.cut(0)
        self.assertIs(self.card.on(), True)
        # The power fails at a write, not before.
        self.assertEqual(self.card.send(0, (8,)), ("ok", (0, 0, 0)))
        self.assertEqual(self.card.choose(1, "two"), OK)
        self.assertEqual(self.card.send(0, (0,)), OFF)
        self.assertIs(self.card.on(), False)
        for parts in (("load", pack(build(cores_of(BANK)[0])), None), ("load", None, None), ("make", 1, 2, 3, 4), ("make", "shop", "Shop", "three", ()),
                      ("choose", 0, "one"), ("choose", 9, 9), ("send", 0, (8,)), ("send", 9, 9), ("drop", "two"), ("drop", 9), ("collect",)):
            self.assertEqual(call(self.card, parts), OFF)
        self.assertEqual(self.card.chosen(), ("one", "two", None, None))
        self.assertIsNone(self.card.cut(100))
        self.assertIs(self.card.on(), False)
        self.assertEqual(self.card.collect(), OFF)
        looks = self.card.looks()
        self.assertIsNone(self.card.reset(None))
        self.assertIs(self.card.on(), True)
        self.assertEqual(self.card.chosen(), (None,) * 4)
        self.assertEqual(self.card.looks(), looks)
        self.assertEqual(self.card.choose(0, "one"), OK)
        self.assertEqual(self.card.send(0, (0,)), ("ok", (0, 8, 3)))

    def test_a_later_cut_and_reset(self):
        self.card.cut(0)
        self.card.cut(100)
        self.assertEqual(self.card.send(0, (0,)), ("ok", (0, 8, 3)))
        self.card.cut(0)
        self.card.reset(None)
        self.card.choose(0, "one")
        self.assertEqual(self.card.send(0, (0,)), ("ok", (0, 8, 4)))
        self.card.reset(1)
        self.card.choose(0, "one")
        self.assertEqual(self.card.send(0, (0,)), OFF)

    def test_reset_whose_power_fails(self):
        """What is left of a transaction is put back, however often the power fails."""
        before = self.card.state()
        # Ahead of the write of the commit there are two changes of four writes each.
        for writes in range(3, 9):
            self.setUp()
            self.card.cut(writes)
            self.assertEqual(self.card.send(0, (3, 1)), OFF)
            for more in (0, 0, 1, 0):
                self.assertIsNone(self.card.reset(more))
                self.assertEqual(self.card.on(), False)
                self.assertEqual(self.card.send(0, ()), OFF)
                self.assertEqual(self.card.chosen(), (None,) * 4)
            self.card.reset(None)
            self.assertIs(self.card.on(), True)
            self.assertEqual(self.card.state(), before)
        # The writes that put back are counted: two old values and the number of entries.
        self.setUp()
        self.card.cut(8)
        self.card.send(0, (3, 1))
        for more, on in ((2, False), (3, True)):
            self.card.reset(more)
            self.assertEqual(self.card.on(), on)
        # And the cut comes then.
        self.card.choose(0, "one")
        self.assertEqual(self.card.send(0, (8,))[0], "ok")
        self.assertEqual(self.card.collect(), OFF)

    def test_the_number_of_writes(self):
        """Each effect is one write, and those that only last with others do not matter."""
        for parts, writes in ((("drop", "two"), 1), (("send", 0, (0,)), 2), (("send", 0, (3, 1)), 10)):
            self.setUp()
            self.card.cut(writes - 1)
            self.assertEqual(call(self.card, parts), OFF)
            self.setUp()
            self.card.cut(writes)
            self.assertNotEqual(call(self.card, parts), OFF)


if __name__ == "__main__":
    unittest.main()
