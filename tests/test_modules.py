"""Points 500 to 506."""

import unittest
from copy import deepcopy

from bundles import A, B, BACK, BYTES, CODE, F, INT, MODULE, NOTHING, PAY, module_with, others, part_at, paths, replaced, with_code
from moduleform import is_right
from programs import Programs
from values import ANY
from warycard.compiling import build
from warycard.instructions import NAMES
from warycard.modules import is_module
from warycard.words import SIGNS


class ModuleTest(unittest.TestCase):
    def right(self, value):
        self.assertIs(is_module(value), True)
        self.assertTrue(is_right(value))

    def wrong(self, value):
        self.assertIs(is_module(value), False, value)

    def test_every_kind_of_part(self):
        self.assertEqual(sorted({row[0] for row in CODE}), sorted(NAMES))
        self.right(MODULE)
        for seed in range(60):
            core = Programs(seed).core()
            for improve in (False, True):
                self.right(build(core, improve=improve))

    def test_each_part_exchanged(self):
        counts = {True: 0, False: 0}
        for path in paths(MODULE):
            for other in others(part_at(MODULE, path)):
                value = replaced(MODULE, path, other)
                found = is_module(value)
                self.assertIs(found, is_right(value), (path, other))
                counts[found] += 1
        self.assertGreater(counts[True], 100)
        self.assertGreater(counts[False], 1000)

    def test_any_value(self):
        for value in ANY:
            self.wrong(value)
        for number, path in enumerate(paths(MODULE)):
            for k in range(4):
                value = replaced(MODULE, path, ANY[(number + 11 * k) % len(ANY)])
                self.assertIs(is_module(value), is_right(value))

    def test_small(self):
        self.right(module_with())
        for name in ("a", "if", "A1", "a" * 20, "class"):
            self.right(module_with(name=name))
        for name in ("", "1a", "a" * 21, "a b", "a.b", None, 1, ("a",)):
            self.wrong(module_with(name=name))
        for version in (0, 255):
            self.right(module_with(version=version))
        for version in (-1, 256, True, 1.0, None, "1"):
            self.wrong(module_with(version=version))
        self.wrong(module_with(word="core"))
        self.wrong(module_with() + ((),))
        self.wrong(module_with()[:7])

    def test_uses(self):
        self.right(module_with(uses=(("a", 0), ("b", 255))))
        for uses in ((("a", 256),), (("a", -1),), (("a", True),), (("own", 1),), (("a", 1), ("a", 2)), (("a", 1, 1),), (("a",),),
                     [("a", 1)], (["a", 1],), ("a",), None, (("", 1),)):
            self.wrong(module_with(uses=uses))

    def test_faces(self):
        own = ("face", "own", "F")
        for head in (("a", (), NOTHING), ("a", (INT, BYTES, own), own), ("a", (PAY,), PAY), ("return", (), INT)):
            self.right(module_with(uses=(("bank", 1),), faces=(("F", (head,)),)))
        for head in (("a", (NOTHING,), INT), ("a", (), ("null",)), ("a", (A,), INT), ("a", (), A), ("a", (), ("face", "own", "G")),
                     ("a", (), ("face", "shop", "G")), ("", (), INT), ("a", [], INT), ("a", (), None), ("a", (), ()), ("a", ()),
                     ("a", (), INT, INT), ("a", (INT + INT,), INT), ("a", (("int", 0),), INT), ("a", (["int"],), INT)):
            self.wrong(module_with(uses=(("bank", 1),), faces=(("F", (head,)),)))
        # A class does not cross, although it is there.
        for head in (("a", (A,), INT), ("a", (), A)):
            self.wrong(module_with(faces=(("F", (head,)),), classes=(("A", -1, (), (), ()),)))
        self.right(module_with(faces=(("F", ()), ("G", ()))))
        self.right(module_with(faces=(("F", ()),), classes=(("F", -1, (), (), ()),)))
        self.wrong(module_with(faces=(("F", ()), ("F", ()))))
        self.wrong(module_with(faces=(("F", (("a", (), INT), ("a", (), NOTHING))),)))
        self.right(module_with(faces=(("F", (("a", (), INT), ("b", (), NOTHING))), ("G", (("a", (), INT),)))))

    def test_classes(self):
        base = ("A", -1, (), (INT, BYTES), ())
        for row in (("B", 0, (), (INT, BYTES), ()), ("B", 0, (), (INT, BYTES, A, B, F, PAY), ()), ("B", -1, (), (), ()),
                    ("B", -1, (F, PAY), (B,), ()), ("B", -1, (("face", "bank", "if"),), (), ()), ("F", -1, (), (), ())):
            self.right(module_with(uses=(("bank", 1),), faces=(("F", ()),), classes=(base, row)))
        for row in (("A", -1, (), (), ()), ("B", 1, (), (INT, BYTES), ()), ("B", 2, (), (INT, BYTES), ()), ("B", -2, (), (), ()),
                    ("B", False, (), (INT, BYTES), ()), ("B", None, (), (), ()), ("B", 0, (), (INT,), ()), ("B", 0, (), (), ()),
                    ("B", 0, (), (BYTES, INT), ()), ("B", -1, (F, F), (), ()), ("B", -1, (INT,), (), ()), ("B", -1, (A,), (), ()),
                    ("B", -1, (("face", "own", "G"),), (), ()), ("B", -1, (("face", "shop", "G"),), (), ()),
                    ("B", -1, (), (NOTHING,), ()), ("B", -1, (), (("class", 2),), ()), ("B", -1, (), (("class", -1),), ()),
                    ("B", -1, (), (("class", True),), ()), ("B", -1, (), (("class",),), ()), ("B", -1, (), ()),
                    ("B", -1, (), (), (), ()), ("B", -1, (), (), (("a", (), INT, 0),)), ("B", -1, (F, F, F), (), ())):
            self.wrong(module_with(uses=(("bank", 1),), faces=(("F", ()),), classes=(base, row)))

    def test_rows_and_methods(self):
        quiet, other = ("a", (), NOTHING), ("b", (INT,), INT)
        one = (0,) + quiet + ((), 0, BACK, ())
        two = (0,) + other + ((), 0, BACK, ())
        heir = (1,) + quiet + ((), 0, BACK, ())
        more = (1, "c", (), NOTHING, (), 0, BACK, ())

        def tables(methods, *rows):
            classes = tuple((f"C{k}", k - 1, (), (), lines) for k, lines in enumerate(rows))
            return module_with(classes=classes, methods=methods)
        first = (quiet + (0,), other + (1,))
        self.right(tables((one, two), first))
        self.right(tables((one, two), first[::-1]))
        self.right(tables((one, two), first, first))
        self.right(tables((one, two, heir), first, (quiet + (2,), other + (1,))))
        self.right(tables((one, two, heir), first, (quiet + (2,), other + (1,)), (quiet + (2,), other + (1,))))
        self.right(tables((one, two, heir, more), first, (quiet + (2,), other + (1,), ("c", (), NOTHING, 3))))
        self.right(tables((one, two, more), first, first + (("c", (), NOTHING, 2),)))
        for methods, rows in (
            ((one, two), (first[:1],)), ((one,), (first,)), ((one, two), (first + (quiet + (0,),),)), ((two, one), (first,)),
            ((one, two), ((quiet + (1,), other + (0,)),)), ((one, two), ((quiet + (0,), other + (0,)),)),
            ((heir, one, two), ((quiet + (1,), other + (2,)), (quiet + (0,), other + (2,)))),
            ((one, two), (first, first[::-1])), ((one, two), (first, first[:1])), ((one, two), (first, ())),
            ((one, two, heir), (first, first)), ((one, two, heir), (first, (quiet + (2,), other + (2,)))),
            ((one, two, heir), (first, (quiet + (2,), other + (1,)), first)), ((heir, one, two), (first, first)),
            ((one, two, heir), ((quiet + (2,), other + (1,)), (quiet + (2,), other + (1,)))),
            ((one, two), (first, first + (("c", (), NOTHING, 0),))), ((one, two), (first, first + (("c", (), NOTHING, 2),))),
            ((one, two, more), (first, first)), ((one, two), (first, (("a", (), INT, 0), other + (1,)))),
            ((one, two), ((quiet + (0,), ("b", (INT,), BYTES, 1)),)), ((one, two), ((quiet + (0,), ("b", (), INT, 1)),)),
            ((one, two), (first, (("z", (), NOTHING, 0), other + (1,)))), ((one, two), ((quiet + (False,), other + (1,)),)),
            ((one, one), ((quiet + (0,),),)), ((one, one), ((quiet + (1,),),)), ((one, two, more, heir), (first, (
                quiet + (2,), other + (1,), ("c", (), NOTHING, 3)))), ((one, two), (first, (quiet + (1,), other + (1,)))),
        ):
            value = tables(methods, *rows)
            self.assertFalse(is_right(value))
            self.wrong(value)

    def test_instructions(self):
        bank = {"uses": (("bank", 1),), "faces": (("F", (("a", (), INT), ("b", (), INT))),)}
        right = [("const", n) for n in (-32768, -1, 0, 32767)] + [("load", n) for n in range(4)] + [("store", n) for n in range(4)]
        right += [("op", sign) for sign in SIGNS] + [("get", 0, 1), ("put", 0, 0), ("callc", 0, 0), ("new", 0), ("is", A), ("as", A),
                                                    ("is", F), ("as", PAY), ("seek", F, "a" * 16), ("seek", PAY, " ")]
        right += [("callf", "own", "F", n) for n in (0, 1)] + [("callf", "bank", "X", n) for n in (0, 59)]
        right += [(word,) for word in ("null", "pop", "neg", "not", "same", "at", "setat", "size", "bytes", "temp", "return", "returnv",
                                       "throw", "buffer", "begin", "commit", "abort", "step")]
        wrong = [("const", n) for n in (-32769, 32768, True, 1.0, None, "1", 10 ** 40)]
        wrong += [(word, n) for word in ("load", "store") for n in (-1, 4, False, 0.0, None, "this", (0,))]
        wrong += [("op", sign) for sign in ("", "=", "and", "not", None, 0, ["+"], ("+",))]
        wrong += [(word, n) for word in ("jump", "jumpif", "jumpnot") for n in (-1, 1, True, None, 0.0)]
        wrong += [("get", 0, 2), ("get", 0, -1), ("get", 1, 0), ("get", -1, 0), ("get", 0, True), ("get", False, 0), ("get", 0),
                  ("put", 0, 2), ("put", 0, 0, 0), ("callc", 0, 1), ("callc", 0, -1), ("callc", 1, 0), ("callc", "m", 0), ("new", 1),
                  ("new", -1), ("new", A), ("is", INT), ("as", BYTES), ("is", ("class", 1)), ("is", ("face", "own", "G")), ("as", NOTHING),
                  ("as", ("face", "shop", "F")), ("seek", A, "x"), ("seek", INT, "x"), ("seek", F, ""), ("seek", F, "a" * 17),
                  ("seek", F, 'a"'), ("seek", F, None), ("seek", F), ("seek", F, chr(37)), ("callf", "own", "F", 2),
                  ("callf", "own", "F", -1), ("callf", "own", "G", 0), ("callf", "shop", "F", 0), ("callf", "bank", "X", 60),
                  ("callf", "bank", "X", -1), ("callf", "bank", "", 0), ("callf", "bank", "X", True), ("callf", "bank", ["X"], 0),
                  ("callf", None, "F", 0), ("callf", "own", "F"), ("callf", F, 0), (), ("mark", 0), ("nothing",), ["pop"], None, "pop",
                  ("return", 0), ("step", 1), (0,), (("pop",),), ("Pop",), ("load",), ("jump",), ("const",)]
        for instruction in right:
            self.right(with_code((instruction,), **bank))
        for instruction in wrong:
            self.wrong(with_code((instruction,), **bank))
        for instruction in CODE:
            for place in range(len(instruction)):
                for value in ANY:
                    module = replaced(MODULE, (6, 1, 6, CODE.index(instruction), place), value)
                    self.assertIs(is_module(module), is_right(module))
        for word in ("jump", "jumpif", "jumpnot"):
            self.right(with_code(((word, 1), (word, 0))))
            self.wrong(with_code(((word, 2), (word, 0))))

    def test_handlers(self):
        code = (("pop",),) * 4
        for handler in ((0, 1, 0), (0, 4, 3), (3, 4, 0), (2, 3, 1), (0, 4, 0)):
            self.right(with_code(code, (handler,)))
            self.right(with_code(code, (handler, handler)))
        for handler in ((0, 0, 0), (2, 1, 0), (0, 5, 0), (4, 5, 0), (4, 4, 0), (-1, 2, 0), (0, 1, 4), (0, 1, -1), (0, 1), (0, 1, 2, 3),
                        [0, 1, 2], (False, 1, 2), (0, True, 2), (0, 1, True), (0, 1, None), ("0", 1, 2), (0, 1.0, 2), None, 5):
            self.wrong(with_code(code, (handler,)))
        self.wrong(with_code(code, [(0, 1, 0)]))
        self.wrong(with_code(code, None))

    def test_limits(self):
        names = [f"x{n}" for n in range(121)]
        for count, holds in ((60, True), (61, False)):
            kinds = (INT,) * count
            head = ("m", kinds, NOTHING)
            wide = module_with(classes=(("A", -1, (), (), (head + (0,),)),), methods=((0,) + head + ((), 0, BACK, ()),))
            many = tuple((name, (), NOTHING) for name in names[:count])
            rows = tuple(row + (n,) for n, row in enumerate(many))
            methods = tuple((0,) + row + ((), 0, BACK, ()) for row in many)
            faces = tuple((name, ()) for name in names[:count])
            for value in (
                module_with(uses=tuple((name, 1) for name in names[:count])), module_with(faces=faces),
                module_with(faces=(("F", many),)), module_with(faces=(("F", (("a", kinds, INT),)),)),
                module_with(classes=tuple((name, -1, (), (), ()) for name in names[:count])),
                module_with(classes=(("A", -1, (), kinds, ()),)), module_with(classes=(("A", -1, (), (), rows),), methods=methods), wide,
                module_with(uses=(("q", 1),), classes=(("A", -1, tuple(("face", "q", name) for name in names[:count]), (), ()),)),
                with_code(BACK, variables=kinds),
                module_with(classes=tuple((name, -1, (), (), ()) for name in names[:60]), applets=tuple(range(count))),
            ):
                self.assertIs(is_module(value), holds)
                self.assertIs(is_right(value), holds)
        for count, holds in ((120, True), (121, False)):
            classes = tuple((name, -1, (), (), (("a", (), NOTHING, 2 * k), ("b", (), NOTHING, 2 * k + 1))) for k, name in
                            enumerate(names[:60]))
            methods = tuple((k, word, (), NOTHING, (), 0, BACK, ()) for k in range(60) for word in "ab")
            if not holds:
                classes = classes[:59] + ((names[59], -1, (), (), classes[59][4] + (("c", (), NOTHING, 120),)),)
                methods += ((59, "c", (), NOTHING, (), 0, BACK, ()),)
            self.assertIs(is_module(module_with(classes=classes, methods=methods)), holds)
        for count, holds in ((0, False), (1, True), (2000, True), (2001, False)):
            self.assertIs(is_module(with_code((("return",),) * count)), holds)
        for count, holds in ((0, True), (300, True), (301, False)):
            self.assertIs(is_module(with_code(BACK, ((0, 1, 0),) * count)), holds)
            self.assertIs(is_module(with_code(BACK, stack=count)), holds)
        for stack in (-1, True, None, 1.0):
            self.wrong(with_code(BACK, stack=stack))

    def test_applets(self):
        classes = tuple((name, -1, (), (), ()) for name in "ABC")
        for applets, holds in (((), True), ((0,), True), ((0, 2), True), ((0, 1, 2), True), ((2, 0), False), ((0, 0), False),
                               ((3,), False), ((-1,), False), ((True,), False), (("A",), False), ([0], False), ((0.0,), False)):
            self.assertIs(is_module(module_with(classes=classes, applets=applets)), holds)

    def test_arguments_stay(self):
        value = deepcopy(MODULE)
        is_module(value)
        self.assertEqual(value, MODULE)


if __name__ == "__main__":
    unittest.main()
