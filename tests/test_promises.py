"""Points 1 to 4: what the whole program promises."""

import unittest
from collections import Counter
from random import Random
from unittest.mock import patch

from bundles import part_at, replaced
from cards import cores_of
from codebundle import world_of
from lively import Lively
from twocards import call, cut_everywhere, pair_of, picture
from warycard.card import Card
from warycard.compiling import build
from warycard.effects import Effects
from warycard.errors import BadCode, Fault
from warycard.heap import BUFFER, Heap
from warycard.limits import LOOK
from warycard.machine import Machine
from warycard.modules import is_module
from warycard.packing import pack
from warycard.trying import try_module
from warycard.walking import walk
from warycard.words import is_word

OK = ("ok",)


class Watch:
    """Looks at each instruction of all machines, at each use of an object, and at each look."""

    def __init__(self, case):
        self.case = case
        self.machine = None
        self.told = Counter()
        self.types = {}

    def patched(self):
        """Return what lets this one see all."""
        watch = self
        run, go_on, look, read, write = Machine.run, Machine._go_on, Machine.look, Heap.read, Heap.write

        def new_run(machine, number, name, value):
            watch.machine = machine
            try:
                return run(machine, number, name, value)
            finally:
                watch.machine = None

        def new_go_on(machine, frame):
            watch.see(machine, frame)
            go_on(machine, frame)

        def new_look(machine, frame, number):
            passes = number == BUFFER or machine.heap.owner(number) == frame.keeper
            before = machine.looks()
            fails = False
            try:
                look(machine, frame, number)
            except Fault as fault:
                watch.case.assertEqual(fault.code, LOOK)
                fails = True
            # A look that is left out would have passed.
            watch.case.assertEqual(fails, not passes)
            watch.told["left out" if machine.looks() == before else "fails" if fails else "passes"] += 1
            if fails:
                raise Fault(LOOK)

        def new_read(heap, number, place):
            watch.use(heap, number)
            return read(heap, number, place)

        def new_write(heap, number, place, word):
            watch.use(heap, number)
            write(heap, number, place, word)

        return (patch.object(Machine, "run", new_run), patch.object(Machine, "_go_on", new_go_on), patch.object(Machine, "look", new_look),
                patch.object(Heap, "read", new_read), patch.object(Heap, "write", new_write))

    def use(self, heap, number):
        """An object is read and changed only by code that runs for its owner."""
        if self.machine is not None and number != BUFFER:
            self.case.assertEqual(heap.owner(number), self.machine._frames[-1].keeper)
            self.told["used"] += 1

    def see(self, machine, frame):
        """Each value on the stack and in the slots is of the type that the code checker found."""
        module = machine.world.module(frame.home)
        key = (frame.home, frame.method_number)
        if key not in self.types:
            method = module[6][frame.method_number]
            self.types[key] = (walk(machine.world, module, method), Effects(machine.world, module, method).slot_kinds())
        ways, slots = self.types[key]
        self.case.assertIn(frame.place, ways)
        self.case.assertEqual(len(frame.stack), len(ways[frame.place]))
        self.case.assertLessEqual(len(frame.stack), module[6][frame.method_number][5])
        self.case.assertEqual(len(frame.slots), len(slots))
        for value, kind in list(zip(frame.stack, ways[frame.place])) + list(zip(frame.slots, slots)):
            self.fits(machine, frame.home, value, kind)
        self.told["instructions"] += 1

    def fits(self, machine, home, value, kind):
        if kind == ("int",):
            self.case.assertTrue(is_word(value))
        elif value == BUFFER:
            self.case.assertEqual(kind, ("bytes",))
        elif value != 0:
            self.case.assertNotEqual(kind, ("null",))
            self.case.assertIn(value, machine.heap.numbers())
            own = machine.heap.kind(value)
            self.case.assertTrue(own < 0 if kind == ("bytes",) else own >= 0 and machine.world.is_kind(own, home, kind))


class PromisesTest(unittest.TestCase):
    def watched(self, cards_and_calls):
        """Do calls on cards that are watched."""
        watch = Watch(self)
        patches = watch.patched()
        for one in patches:
            one.start()
        try:
            for card, calls in cards_and_calls:
                watch.types = {}
                for parts in calls:
                    call(card, parts)
        finally:
            for one in patches:
                one.stop()
        return watch.told

    def test_answers_and_power(self):
        """The promises 1 and 2; more of them is in test_cards_by_chance.py."""
        for seed in range(5):
            lively = Lively(7000 + seed)
            plain, card = pair_of(cores_of(*lively.texts()), seed % 2 == 0)
            for parts in lively.calls(20):
                cut_everywhere(self, plain, card, parts, 1 + seed)
                self.assertEqual(call(card, parts), call(plain, parts))
                self.assertEqual(picture(card), picture(plain))

    def test_owners_types_and_looks(self):
        """The promises 3, 4 and 5, for compiled programs."""
        rows = []
        for seed in range(40):
            lively = Lively(3000 + seed)
            cores = cores_of(*lively.texts())
            calls = lively.calls(25)
            for all_looks in (False, True):
                rows.append((pair_of(cores, seed % 2 == 0, all_looks)[1], calls))
        told = self.watched(rows)
        for word, least in (("left out", 300), ("passes", 300), ("fails", 3), ("used", 4000), ("instructions", 20000)):
            self.assertGreater(told[word], least, told)

    def test_an_object_of_another_owner(self):
        """What a package can do with the bytes and the object of another one, and what not."""
        bank = "package bank 1; face Pay { bytes row(); Pay peer(); int pay(bytes b, int k); }"
        shop = """package shop 1; use bank 1;
            class Shop has bank.Pay { field bytes b; field int n;
                nothing made(int k) { this.b = new bytes(2); this.n = 5; }
                int process(int k) { buffer[0] = this.b[0]; buffer[1] = this.n; return 2; }
                bytes row() { return this.b; } bank.Pay peer() { return this; }
                int pay(bytes b, int k) { this.n = this.n + k; this.b[0] = k; if (b is0) { b[0] = 1; } return b.size; } }
            applet Shop;""".replace("if (b is0)", "if (k > 100)")
        thief = """package thief 1; use bank 1;
            class Thief { field bytes b; field bank.Pay p;
                nothing made(int k) { this.b = new bytes(3); }
                int process(int k) {
                    int what = buffer[0]; int n = 0;
                    this.p = (seek bank.Pay "shop").peer();
                    if (what == 0) { n = this.p.row()[0]; }
                    if (what == 1) { this.p.row()[0] = 9; }
                    if (what == 2) { n = this.p.row().size; }
                    if (what == 3) { n = (this.p is Thief); }
                    if (what == 4) { Thief t = (this.p as Thief); }
                    if (what == 5) { n = this.p.pay(this.b, 3); }
                    if (what == 6) { n = this.p.pay(buffer, 103); }
                    if (what == 7) { n = this.p.pay(null, 4); }
                    if (what == 8) { this.b = this.p.row(); n = (this.b == this.p.row()) + (this.p is bank.Pay); }
                    buffer[0] = n; return 1;
                } }
            applet Thief;"""
        plain, card = pair_of(cores_of(bank, shop, thief))
        answers = []
        for parts in (("make", "shop", "Shop", "shop", ()), ("make", "thief", "Thief", "thief", ()), ("choose", 0, "thief"), ("choose", 1, "shop")):
            self.assertEqual([call(plain, parts), call(card, parts)], [OK] * 2)
        for what in range(9):
            answers.append(call(card, ("send", 0, (what,))))
            self.assertEqual(answers[-1], call(plain, ("send", 0, (what,))))
            self.assertEqual(picture(card), picture(plain))
        look = ("fault", LOOK)
        # The shop cannot look at the bytes of the thief either, but at the buffer it can.
        self.assertEqual(answers, [look] * 6 + [("ok", (64,)), ("fault", -1), ("ok", (2,))])
        self.assertEqual(call(card, ("send", 1, ())), ("ok", (4, 5 + 3 + 103 + 4)))

    def changed(self, module, chance):
        """Return a module with code that is exchanged by chance."""
        number = chance.randrange(len(module[6]))
        code = part_at(module, (6, number, 6))
        place = chance.randrange(len(code))
        word = code[place][0]
        kind = chance.randrange(4)
        if kind == 0 and word == "const":
            other = ("const", chance.choice((0, 1, -1, 61, 64, 32767)))
        elif kind == 0 and word in ("load", "store"):
            other = (word, max(0, code[place][1] + chance.choice((-1, 1))))
        elif kind == 1:
            other = chance.choice([line for line in code if line[0] == word or line[0] in ("load", "const", "null", "buffer", "step", "begin")])
        elif kind == 2:
            other = (chance.choice(("jump", "jumpif", "jumpnot")), min(len(code) - 1, place + chance.randrange(6)))
        else:
            other = chance.choice((("null",), ("pop",), ("step",), ("not",), ("op", "-"), ("at",), ("begin",), ("abort",), ("load", 0), ("const", 3),
                                   ("buffer",), ("new", 1), ("as", ("class", 1)), ("as", ("class", 0)), ("size",), ("throw",)))
        return replaced(module, (6, number, 6, place), other)

    def test_code_that_was_changed_by_hand(self):
        """The promises 3, 4 and 5, for code that no compiler made: if it is accepted, it never gets stuck."""
        rows = []
        accepted = 0
        for seed in range(40):
            chance = Random(seed)
            lively = Lively(4000 + seed)
            modules = [build(core, improve=seed % 2 == 0) for core in cores_of(*lively.texts())]
            card = Card(seed % 3 == 0)
            for place, module in enumerate(modules):
                changes = 0
                for _ in range(40):
                    other = self.changed(module, chance)
                    if is_module(other) and self.accepted(modules[:place] + [other]):
                        module = other
                        changes += 1
                modules[place] = module
                accepted += changes
                self.assertEqual(card.load(pack(module), None), OK)
            rows.append((card, lively.calls(25)))
        self.assertGreater(accepted, 1000)
        told = self.watched(rows)
        for word, least in (("left out", 100), ("passes", 100), ("fails", 3), ("used", 1000), ("instructions", 5000)):
            self.assertGreater(told[word], least, told)

    def accepted(self, modules):
        """Tell whether the code of the last one of some modules is let pass."""
        try:
            try_module(world_of(*modules), modules[-1])
        except BadCode:
            return False
        return True

    def test_applets_that_do_not_notice_each_other(self):
        """The promise 6: what is told of one applet is the same with and without the other one."""
        compared = 0
        for seed in range(80):
            chance = Random(seed)
            lively = Lively(5000 + seed)
            # Without a face that both know no reference passes.
            text = lively.texts()[0]
            texts = [text.replace("package bank 1;", "package " + name + " 1;") for name in ("left", "right")]
            cores = cores_of(*texts)
            alone, together = pair_of(cores)[1], pair_of(cores)[1]
            near = False
            for _ in range(30):
                side = chance.randrange(2)
                parts = self.call_of(chance, side)
                answer = call(together, parts)
                near = near or together.used()[0] > 250 or together.used()[1] > 40
                if side == 0:
                    told = call(alone, parts)
                    near = near or together.used()[0] > 250
                    if near:
                        break
                    self.assertEqual(answer, told, (seed, parts))
                    self.assertEqual(self.part(together), self.part(alone))
                    compared += 1
                # A collection makes room, and is not noticed.
                if chance.random() < 0.2:
                    together.collect()
        self.assertGreater(compared, 400)

    def call_of(self, chance, side):
        package, name = (("left", "one"), ("right", "two"))[side]
        data = tuple(chance.randrange(7) for _ in range(chance.randrange(4)))
        return chance.choice((("make", package, "Base", name, data), ("choose", side, name), ("send", side, data), ("send", side, data)))

    def part(self, card):
        """Return the objects to which the applet of the package left leads, numbered in their order, without their owner."""
        applets, objects = card.state()
        found = [number for _, name, number in applets if name == "one"]
        # The list grows while it is gone through.
        for number in found:
            for value in objects[number][2]:
                if isinstance(value, tuple) and value[1] not in found:
                    found.append(value[1])
        rows = []
        for number in found:
            kind, _, values = objects[number]
            rows.append((kind, tuple(("object", found.index(value[1])) if isinstance(value, tuple) else value for value in values)))
        return rows


if __name__ == "__main__":
    unittest.main()
