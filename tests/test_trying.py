"""Points 800 to 804: the code checker."""

import unittest
from itertools import product
from random import Random

import codebundle
from bundles import paths, part_at, replaced
from codebundle import A, ALONE, B, BANK, BYTES, D, F, FAR, G, INT, NOTHING, NULL, PARAMS, PAY, Q, SLOTS, accepts, world_of
from programs import USED, Programs
from typeform import passes
from warycard.compiling import build
from warycard.core import is_core
from warycard.errors import BadCode
from warycard.modules import is_module
from warycard.trying import try_module

BACK = ("return",)
# What puts a value of a type on the stack.
MAKERS = {
    INT: ("const", 3), BYTES: ("buffer",), NULL: ("null",), A: ("new", 0), B: ("new", 1), D: ("new", 2),
    F: ("load", 6), G: ("load", 7), PAY: ("load", 8),
}
# The types that a type fits.
FITS = {
    INT: {INT}, BYTES: {BYTES}, NULL: {BYTES, A, B, D, F, G, PAY, Q}, A: {A, F}, B: {B, A, F, G}, D: {D, PAY},
    F: {F}, G: {G}, PAY: {PAY}, Q: {Q},
}
REFERENCES = set(MAKERS) - {INT}
OBJECTS = {NULL, A, B, D, F, G, PAY}


def takers(kind):
    return {one for one in MAKERS if kind in FITS[one]}


class TableTest(unittest.TestCase):
    def height(self, code, variables=()):
        """Return how many values are on the stack behind a code that passes."""
        for many in range(10):
            if not accepts(code + [("pop",)] * (many + 1) + [BACK], variables=variables):
                return many

    def kinds(self, code):
        """Return the types of the slots into which the top may be stored."""
        variables = (Q,)
        slots = dict(zip((SLOTS + variables)[1:], range(1, 10)))
        return {kind for kind, slot in slots.items() if accepts(code + [("store", slot), BACK], variables=variables)}

    def ask(self, instruction, taken, put, ends=False, result=NOTHING):
        """Hand an instruction values of all types; `taken` has for each value the types that are right."""
        for kinds in product(MAKERS, repeat=len(taken)):
            code = [MAKERS[kind] for kind in kinds] + [instruction]
            right = all(kind in row for kind, row in zip(kinds, taken))
            end = [] if ends else [BACK]
            self.assertEqual(accepts(code + end, result=result), right, code)
            if right and not ends:
                self.assertEqual(self.height(code), 0 if put is None else 1, code)
                if put is not None:
                    self.assertEqual(self.kinds(code), FITS[put], code)
        for many in range(len(taken)):
            code = [MAKERS[min(row)] for row in taken[len(taken) - many:]] + [instruction]
            self.assertFalse(accepts(code + end, result=result), code)
        # What lies below does not matter.
        code = [("const", 1)] + [MAKERS[min(row)] for row in taken] + [instruction] + end
        self.assertTrue(accepts(code, result=result), code)

    def test_values_and_slots(self):
        self.ask(("const", -32768), (), INT)
        self.ask(("null",), (), NULL)
        self.ask(("buffer",), (), BYTES)
        self.ask(("pop",), (set(MAKERS),), None)
        for slot, kind in enumerate(SLOTS):
            self.ask(("load", slot), (), kind)
            if slot > 0:
                self.ask(("store", slot), (takers(kind),), None)
        for kind in MAKERS:
            self.assertFalse(accepts([MAKERS[kind], ("store", 0), BACK]))
        for instruction in (("load", 9), ("load", -1), ("store", 9), ("store", -1)):
            self.assertFalse(accepts([("const", 1), instruction, BACK], formed=False))
        self.assertTrue(accepts([("load", 9), ("store", 9), BACK], variables=(PAY,)))

    def test_numbers(self):
        for word in ("neg", "not"):
            self.ask((word,), ({INT},), INT)
        for sign in ("+", "mod", ">="):
            self.ask(("op", sign), ({INT}, {INT}), INT)
        self.ask(("same",), (REFERENCES, REFERENCES), INT)

    def test_bytes(self):
        self.ask(("at",), (takers(BYTES), {INT}), INT)
        self.ask(("setat",), (takers(BYTES), {INT}, {INT}), None)
        self.ask(("size",), (takers(BYTES),), INT)
        for word in ("bytes", "temp"):
            self.ask((word,), ({INT},), BYTES)

    def test_objects(self):
        for k, kind in enumerate((A, B, D)):
            self.ask(("new", k), (), kind)
        for k, kind, fields in ((0, A, codebundle.FIELDS[:3]), (1, B, codebundle.FIELDS)):
            for field, held in enumerate(fields):
                self.ask(("get", k, field), (takers(kind),), held)
                self.ask(("put", k, field), (takers(kind), takers(held)), None)
        for word in ("get", "put"):
            for k, field in ((0, 3), (0, -1), (2, 0), (3, 0), (-1, 0)):
                self.assertFalse(accepts([("null",), ("null",), (word, k, field), BACK], formed=False))
                self.assertFalse(accepts([("null",), ("const", 0), (word, k, field), BACK], formed=False))
        for k in (3, -1):
            self.assertFalse(accepts([("new", k), BACK], formed=False))

    def test_calls(self):
        self.ask(("callc", 0, 0), (takers(A), {INT}), BYTES)
        self.ask(("callc", 0, 1), (takers(A),), None)
        self.ask(("callc", 0, 2), (takers(A), takers(B), takers(F)), A)
        self.ask(("callc", 1, 2), (takers(B), takers(B), takers(F)), A)
        self.ask(("callc", 1, 4), (takers(B),), D)
        for k, row in ((0, 4), (1, 5), (0, -1), (3, 0), (-1, 0)):
            self.assertFalse(accepts([("null",), ("callc", k, row), BACK], formed=False))
        self.ask(("callf", "own", "F", 0), (takers(F), {INT}), BYTES)
        self.ask(("callf", "own", "F", 1), (takers(F),), None)
        self.ask(("callf", "bank", "Pay", 0), (takers(PAY), {INT}, takers(BYTES)), INT)
        self.ask(("callf", "bank", "Pay", 2), (takers(PAY),), Q)
        self.ask(("callf", "bank", "Pay", 3), (takers(PAY), takers(PAY)), PAY)
        far = [("null",), ("load", 8), ("callf", "bank", "Pay", 2), ("callf", "bank", "Pay", 1), BACK]
        self.assertTrue(accepts([("load", 8)] + far[1:]))
        self.assertTrue(accepts(far))

    def test_faces_that_are_not_known(self):
        null = ("null",)
        self.assertTrue(accepts([null, ("callf", "bank", "Pay", 2), ("pop",), BACK]))
        for number in (4, 59):
            self.assertFalse(accepts([null, ("callf", "bank", "Pay", number), ("pop",), BACK]))
        for package, face, number in (("own", "H", 0), ("own", "G", 0), ("own", "F", 2), ("own", "F", -1), ("alone", "Pay", 0),
                                      ("none", "Pay", 0)):
            self.assertFalse(accepts([null, ("callf", package, face, number), ("pop",), BACK], formed=False))
            self.assertFalse(accepts([null, ("callf", package, face, number), BACK], formed=False))
        self.assertFalse(accepts([null, ("callf", "bank", "Buy", 0), ("pop",), BACK]))
        self.assertFalse(accepts([null, ("callf", "bank", "Buy", 0), BACK]))

    def test_kinds(self):
        for kind in (A, B, D, F, G, PAY, Q):
            self.ask(("is", kind), (OBJECTS,), INT)
            self.ask(("as", kind), (OBJECTS,), kind)
            if kind[0] == "face":
                self.ask(("seek", kind, "bus pass"), (), kind)
        for face in (("bank", "Buy"), ("far", "Pay")):
            for word in ("is", "as"):
                self.assertFalse(accepts([("null",), (word, ("face",) + face), ("pop",), BACK]))
            self.assertFalse(accepts([("seek", ("face",) + face, "x"), ("pop",), BACK]))
        for kind in (("face", "own", "H"), ("face", "alone", "Pay"), ("face", "none", "F"), ("class", 3), ("class", -1), INT, BYTES):
            for word in ("is", "as"):
                self.assertFalse(accepts([("null",), (word, kind), ("pop",), BACK], formed=False))
            self.assertFalse(accepts([("seek", kind, "x"), ("pop",), BACK], formed=False))
        self.assertFalse(accepts([("seek", A, "x"), ("pop",), BACK], formed=False))

    def test_all_others(self):
        for word in ("begin", "commit", "abort", "step"):
            self.ask((word,), (), None)
        self.ask(("throw",), ({INT},), None, True)
        self.ask(BACK, (), None, True)
        for kind in (INT, BYTES, A, F, PAY):
            self.ask(("returnv",), (takers(kind),), None, True, kind)
            self.assertFalse(accepts([BACK], result=kind))
            self.assertFalse(accepts([MAKERS[kind], BACK], result=kind))
            self.assertFalse(accepts([MAKERS[kind], ("returnv",)]))
        for word in ("jumpif", "jumpnot"):
            for kind in MAKERS:
                self.assertEqual(accepts([MAKERS[kind], (word, 2), BACK]), kind == INT)
                self.assertEqual(accepts([("null",), MAKERS[kind], (word, 3), ("pop",), BACK]), kind == INT)
                self.assertFalse(accepts([MAKERS[kind], (word, 2), ("pop",), BACK]))
            self.assertFalse(accepts([(word, 1), BACK]))


class PlacesTest(unittest.TestCase):
    def test_where_code_goes_on(self):
        self.assertTrue(accepts([("jump", 1), BACK]))
        self.assertTrue(accepts([("jump", 2), ("load", 99), BACK], formed=False))
        for place in (2, 3, -1, 2000):
            self.assertFalse(accepts([("jump", place), BACK], formed=False))
            self.assertEqual(accepts([("const", 1), ("jumpif", place), BACK], formed=False), place == 2)
            self.assertEqual(accepts([("const", 1), ("jumpnot", place), BACK], formed=False), place == 2)
        for word in ("jump", "jumpif", "jumpnot"):
            ahead = [] if word == "jump" else [("const", 1)]
            self.assertFalse(accepts(ahead + [(word, -1), BACK, ("step",)], formed=False))
            place = len(ahead)
            # To the own place, and back to a step and to something else.
            self.assertFalse(accepts(ahead + [(word, place), BACK]))
            self.assertTrue(accepts([("step",)] + ahead + [(word, 0), BACK]))
            self.assertFalse(accepts([("begin",)] + ahead + [(word, 0), BACK]))
            self.assertFalse(accepts([("begin",), ("step",)] + ahead + [(word, 0), BACK]))
            self.assertTrue(accepts([("begin",), ("step",)] + ahead + [(word, 1), BACK]))
        self.assertFalse(accepts([("const", 1)]))
        self.assertFalse(accepts([("step",)]))
        self.assertFalse(accepts([("const", 1), ("jumpif", 0)]))
        self.assertFalse(accepts([("step",), ("const", 1), ("jumpnot", 0)]))
        self.assertTrue(accepts([("step",), ("jump", 0)]))
        self.assertTrue(accepts([("const", 1), ("throw",)]))
        self.assertFalse(accepts([("null",), ("callf", "own", "F", 1)]))

    def test_places_that_are_not_reached(self):
        wrong = [("pop",), ("load", 99), ("jump", 77), ("is", ("face", "none", "F")), ("op", "+"), ("returnv",)]
        for end in (BACK, ("jump", 8)):
            self.assertTrue(accepts([("begin",), end] + wrong + [BACK], formed=False))
        self.assertTrue(accepts([("const", 1), ("throw",)] + wrong, formed=False))
        self.assertTrue(accepts([BACK, ("const", 1)]))
        self.assertFalse(accepts([("const", 1), ("jumpif", 3), BACK, ("op", "+"), BACK]))

    def test_two_ways_to_one_place(self):
        def joined(one, other):
            """One way or the other leads to the end."""
            code = [("load", 1), ("jumpif", 3 + len(one))] + one + [("jump", 3 + len(one) + len(other))] + other
            return accepts(code + [BACK])
        for first, second in product(MAKERS, repeat=2):
            self.assertEqual(joined([MAKERS[first]], [MAKERS[second]]), first == second)
            self.assertEqual(joined([("const", 1), MAKERS[first]], [("const", 2), MAKERS[second]]), first == second)
            self.assertFalse(joined([MAKERS[first]], [MAKERS[second]] * 2))
            self.assertFalse(joined([MAKERS[first]], []))
            self.assertFalse(joined([], [MAKERS[first]]))
        # Null meets another type only behind an "as" or a slot.
        self.assertTrue(joined([("null",), ("as", A)], [("new", 0)]))
        # Back to a step with one value more.
        self.assertFalse(accepts([("step",), ("const", 1), ("jump", 0)]))
        self.assertTrue(accepts([("const", 1), ("step",), ("jump", 1)]))

    def test_stack(self):
        code = [("const", 1), ("const", 2), ("const", 3), ("op", "+"), ("op", "+"), ("pop",), BACK]
        for stack in range(6):
            self.assertEqual(accepts(code, stack=stack), stack >= 3, stack)
        # The arguments of a call, and what it puts.
        code = [("null",), ("const", 1), ("callf", "own", "F", 0), ("pop",), BACK]
        self.assertTrue(accepts(code, stack=2))
        self.assertFalse(accepts(code, stack=1))
        self.assertTrue(accepts([("new", 0), ("pop",), BACK], stack=1))
        self.assertFalse(accepts([("new", 0), ("pop",), BACK], stack=0))
        self.assertTrue(accepts([BACK, ("const", 1), ("pop",), BACK], stack=0))
        # The value of a handler.
        code = [("begin",), BACK, ("store", 1), BACK]
        self.assertTrue(accepts(code, ((0, 1, 2),), stack=1))
        self.assertFalse(accepts(code, ((0, 1, 2),), stack=0))
        self.assertTrue(accepts([("const", 1)] * 300 + [BACK], stack=300))
        self.assertFalse(accepts([("const", 1)] * 301 + [BACK], stack=300))
        self.assertFalse(accepts([("const", 1)] * 300 + [BACK], stack=299))

    def test_handlers(self):
        code = [("begin",), ("commit",), BACK, ("store", 1), BACK]
        self.assertTrue(accepts(code, ((0, 2, 3),)))
        self.assertTrue(accepts(code, ((0, 3, 3),)))
        self.assertTrue(accepts(code, ((1, 2, 3), (0, 3, 3))))
        for handler in ((0, 4, 3), (3, 4, 3), (0, 2, 0), (0, 2, 1)):
            self.assertFalse(accepts(code, (handler,)), handler)
        for handler in ((0, 0, 3), (2, 2, 3), (2, 1, 3), (0, 2, 5), (0, 5, 5), (0, 2, 9)):
            self.assertFalse(accepts(code, (handler,), formed=False), handler)
        # At the place there is nothing but an integer.
        for at in (2, 3, 4):
            self.assertEqual(accepts(code, ((0, 1, at),)), at != 2, at)
        self.assertFalse(accepts([("begin",), BACK, ("store", 2), BACK], ((0, 1, 2),)))
        self.assertFalse(accepts([("begin",), BACK, ("op", "+"), BACK], ((0, 1, 2),)))
        # The place is not reached if nothing of the range is; but the bounds are looked at.
        self.assertTrue(accepts([BACK, ("begin",), ("op", "+"), BACK], ((1, 2, 2),)))
        self.assertFalse(accepts([("begin",), ("begin",), ("op", "+"), BACK], ((1, 2, 2),)))
        self.assertFalse(accepts([BACK, ("begin",), ("op", "+"), BACK], ((1, 3, 2),)))
        # A place that is reached over two ranges, and also by a jump with other types or the same.
        code = [("begin",), ("null",), ("pop",), BACK, ("store", 1), BACK]
        self.assertTrue(accepts(code, ((0, 1, 4), (1, 3, 4))))
        self.assertTrue(accepts([("const", 1), ("jump", 2), ("store", 1), BACK], ((0, 1, 2),)))
        self.assertFalse(accepts([("null",), ("jump", 2), ("store", 1), BACK], ((0, 1, 2),)))
        self.assertFalse(accepts([("const", 1), ("const", 2), ("jump", 3), ("store", 1), BACK], ((0, 1, 3),)))
        # A handler whose own place is in the range of another one.
        code = [("begin",), BACK, ("store", 1), BACK, ("pop",), BACK]
        self.assertTrue(accepts(code, ((0, 1, 2), (2, 3, 4))))

    def test_where_a_range_begins_and_ends(self):
        # The value at the handler's place is wrong, so the range must not have the place that is reached.
        code = [("jump", 2), ("begin",), ("begin",), ("jump", 5), ("begin",), BACK, ("op", "+"), BACK]
        for first in range(6):
            for last in range(first + 1, 7):
                reached = any(first <= place < last for place in (0, 2, 3, 5))
                self.assertEqual(accepts(code, ((first, last, 6),)), not reached, (first, last))


class ModulesTest(unittest.TestCase):
    """Whole modules, those of compiled programs among them."""

    @classmethod
    def setUpClass(cls):
        cls.before = (build(("core", "far", 7, (), USED["far"][1], (), ())),
                      build(("core", "bank", 2, (("far", 7),), USED["bank"][1], (), ())))

    def tried(self, module):
        world = world_of(*self.before, module)
        try:
            return try_module(world, module) is None
        except BadCode:
            return False

    def test_compiled_programs_pass(self):
        for seed in range(150):
            core = Programs(seed).core(room=4 + seed % 12)
            for improve in (False, True):
                self.assertTrue(self.tried(build(core, improve=improve)), seed)

    def great(self, variables, body, params=(INT,)):
        """Return a core tree with a method that has a body."""
        methods = (("m", params, NOTHING, variables, body), ("f", (INT,) * 57, INT, (), (("return", ("int", 1)),)))
        table = (("m", params, NOTHING, 0, 0), ("f", (INT,) * 57, INT, 0, 1))
        core = ("core", "own", 1, (), (), (("A", -1, (), (), table, methods),), ())
        self.assertTrue(is_core(core, {}))
        return core

    def test_great_methods_pass(self):
        begin = ("begin",)
        # As many tries as there may be variables, and as many nodes as there may be in a method.
        tries = tuple([("try", (begin,) * 2, 2 + slot, (begin,) * 2) for slot in range(60)])
        deep = ("throw", ("int", 1))
        for slot in range(14):
            deep = ("try", (begin, deep), 2 + slot, (begin,))
        call = ("int", 1)
        # Five calls with many args, each in the last arg of another one.
        for _ in range(5):
            call = ("callc", ("slot", 0), 0, 1, (("int", 2),) * 56 + (call,))
        either = ("slot", 1)
        for _ in range(13):
            either = ("or", ("and", ("slot", 1), ("slot", 1)), either)
        cores = (
            self.great((INT,) * 60, tries),
            self.great((INT,) * 14, (deep,)),
            self.great((BYTES,), tuple([("set", 2, ("null",))] * 150)),
            self.great((), (("do", call, INT),)),
            self.great((), (("throw", either),)),
            self.great((), tuple([("if", ("slot", 1), (begin,), (begin,))] * 75)),
        )
        highest = 0
        for core in cores:
            for improve in (False, True):
                module = build(core, improve=improve)
                self.assertTrue(self.tried(module))
                highest = max(highest, module[6][0][5])
        self.assertGreater(highest, 280)

    def with_method(self, code, handlers=(), stack=0):
        head = ("m", (INT,), NOTHING)
        return ("module", "own", 1, (), (), (("A", -1, (), (), (head + (0,),)),),
                ((0,) + head + ((), stack, tuple(code), tuple(handlers)),), ())

    def test_limits(self):
        begin = [("begin",)]
        module = self.with_method(begin * 1999 + [BACK])
        self.assertTrue(is_module(module))
        self.assertTrue(self.tried(module))
        self.assertFalse(self.tried(self.with_method(begin * 2000)))
        handlers = [(place, 1998, 1998) for place in range(300)]
        module = self.with_method(begin * 1997 + [BACK, ("pop",), BACK], handlers, 1)
        self.assertTrue(is_module(module))
        self.assertTrue(self.tried(module))
        self.assertFalse(self.tried(self.with_method(begin * 1997 + [BACK, ("pop",), BACK], handlers)))
        high = [("const", 1)] * 300 + [("op", "+")] * 299 + [("pop",)] + begin * 1399 + [BACK]
        self.assertTrue(self.tried(self.with_method(high, (), 300)))
        self.assertFalse(self.tried(self.with_method(high, (), 299)))

    def test_all_methods_are_looked_at(self):
        module = codebundle.module_of([BACK])
        world = world_of(FAR, BANK, ALONE, module)
        self.assertIsNone(try_module(world, module))
        for number in range(len(module[6])):
            other = replaced(module, (6, number, 6), (("step",),))
            world = world_of(FAR, BANK, ALONE, other)
            self.assertRaises(BadCode, try_module, world, other)

    def test_code_that_was_changed(self):
        """Compiled code with parts that are exchanged by chance is let pass or refused as a second writing says."""
        told = {True: 0, False: 0}
        for seed in range(60):
            chance = Random(seed)
            module = build(Programs(seed).core(room=6), improve=seed % 2 == 0)
            modules = {one[1]: one for one in self.before + (module,)}
            self.assertTrue(passes(modules, module, chance))
            for _ in range(60):
                other = self.changed(module, chance)
                if is_module(other):
                    modules["own"] = other
                    right = passes(modules, other, chance)
                    self.assertEqual(self.tried(other), right, (seed, other))
                    told[right] += 1
        self.assertGreater(min(told.values()), 300)

    def changed(self, module, chance):
        methods = [number for number, method in enumerate(module[6]) if len(method[6]) > 1]
        if not methods:
            return None
        path = (6, chance.choice(methods))
        code = part_at(module, path + (6,))
        kind = chance.randrange(5)
        if kind == 0:
            handlers = [one for one in paths(part_at(module, path + (7,))) if len(one) == 2]
            if not handlers:
                return None
            one = path + (7,) + chance.choice(handlers)
            return replaced(module, one, part_at(module, one) + chance.choice((-1, 1, 2)))
        if kind == 1:
            return replaced(module, path + (5,), part_at(module, path + (5,)) + chance.choice((-1, 1)))
        place = chance.randrange(len(code))
        if kind == 2:
            return replaced(module, path + (6, place), chance.choice(code))
        if kind == 3:
            return replaced(module, path + (6,), code[:place] + code[place + 1:])
        if len(code[place]) > 1 and isinstance(code[place][1], int):
            return replaced(module, path + (6, place, 1), code[place][1] + chance.choice((-2, -1, 1, 2)))
        return replaced(module, path + (6, place), chance.choice((("null",), ("pop",), ("const", 0), ("step",), ("jump", 0))))


if __name__ == "__main__":
    unittest.main()
