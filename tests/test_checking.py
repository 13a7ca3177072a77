"""Points 300, 301 and 312, and the example of the interface."""

import unittest
from copy import deepcopy

from programs import ASK, BYTES, FAR, INT, NOTHING, PAY, USED
from values import ANY
from warycard.checking import check
from warycard.errors import BadProgram, BadTree
from warycard.syntax import parse

THIS, NULL, ONE = ("slot", 0), ("null",), ("int", 1)
A, B = ("class", 0), ("class", 1)
F = ("face", "own", "F")
HEAD = "package own 1; use bank 2; face F { int go(int by); nothing hush(); }"
# The classes A and B, around the members of A.
FRAME = HEAD + """ class A has F { field int n; field bytes b; field A a; field F f; field B heir; field bank.Pay p;
    int go(int by) { return by; } nothing hush() { } %s } class B of A { field int m; int up() { return 1; } }"""


def core_of(text, used=USED):
    return check(parse(text), used)


def methods(core):
    return core[5][0][5]


class Case(unittest.TestCase):
    def wrong(self, text, used=USED):
        with self.assertRaises(BadProgram) as caught:
            core_of(text, used)
        self.assertIsInstance(caught.exception.reason, str)

    def wrong_body(self, body, head="nothing m(int x, A y)"):
        self.wrong(FRAME.replace("%s", head + " { " + body + " }"))

    def body(self, body, head="nothing m(int x, A y)"):
        """Return the variables and the body of a method of the class A, whose slots 1 and 2 are x and y."""
        core = core_of(FRAME.replace("%s", head + " { " + body + " }"))
        return methods(core)[2][3:]

    def value(self, text):
        """Return the core expression of a text for an int."""
        return self.body(f"throw {text};")[1][0][1]

    def object(self, text):
        """Return the core expression of a text for something else than an int."""
        return self.value(f"({text}) == null")[1]


class TreeTest(Case):
    def test_example(self):
        tree = parse("package p 1; class C { field int n; "
                     "int up(int by) { int old = this.n; this.n = old + by; return old; } }")
        self.assertEqual(check(tree, {})[5][0][3:5], ((INT,), (("up", (INT,), INT, 0, 0),)))
        self.assertEqual(check(tree, {})[5][0][5][0][3:], ((INT,), (
            ("set", 2, ("get", ("slot", 0), 0, 0)),
            ("put", ("slot", 0), 0, 0, ("op", "+", ("slot", 2), ("slot", 1))), ("return", ("slot", 2)))))

    def test_bad_trees(self):
        for value in ANY:
            with self.assertRaises(BadTree):
                check(value, {})
        tree = parse("package p 1;")
        for value in (list(tree), tree + ((),), tree[:6], ("core",) + tree[1:], tree[:2] + (True,) + tree[3:]):
            with self.assertRaises(BadTree):
                check(value, {})
        deep = ("int", 1)
        for _ in range(15):
            deep = ("not", deep)
        for e, error in ((deep, BadTree), (deep[1], None)):
            method = ("method", "m", (), None, (("throw", e),))
            value = ("package", "p", 1, (), (), (("class", "C", None, (), (), (method,)),), ())
            if error is None:
                check(value, {})
            else:
                with self.assertRaises(error):
                    check(value, {})

    def test_whole(self):
        text = """package own 7; use bank 2; use far 7;
            face F { int ask(int a, bytes a); nothing hush(); }
            class D of C { }
            class C has F, bank.Ask { field D d; int ask(int i, bytes j) { return i; } bank.Pay peer() { return null; }
                int ask2() { return 1; } nothing hush() { } }"""
        core = core_of(text)
        faces = (("F", (("ask", (INT, BYTES), INT), ("hush", (), NOTHING))),)
        table = (("ask", (INT, BYTES), INT, 0, 0), ("peer", (), PAY, 0, 1), ("ask2", (), INT, 0, 2),
                 ("hush", (), NOTHING, 0, 3))
        own = (("ask", (INT, BYTES), INT, (), (("return", ("slot", 1)),)), ("peer", (), PAY, (), (("return", NULL),)),
               ("ask2", (), INT, (), (("return", ONE),)), ("hush", (), NOTHING, (), ()))
        self.assertEqual(core, ("core", "own", 7, (("bank", 2), ("far", 7)), faces, (
            ("C", -1, (F, ASK), (B,), table, own), ("D", 0, (), (B,), table, ())), ()))

    def test_numbers_of_classes(self):
        def numbers(*pairs):
            rows = tuple(("class", name, parent, (), (), ()) for name, parent in pairs)
            core = check(("package", "p", 1, (), (), rows, ()), {})
            return "".join(row[0] for row in core[5]), tuple(row[1] for row in core[5])
        self.assertEqual(numbers(("A", None), ("B", "A"), ("C", "B")), ("ABC", (-1, 0, 1)))
        self.assertEqual(numbers(("C", "B"), ("B", "A"), ("A", None)), ("ABC", (-1, 0, 1)))
        self.assertEqual(numbers(("B", "A"), ("C", "A"), ("A", None), ("D", None)), ("ABCD", (-1, 0, 0, -1)))
        self.assertEqual(numbers(("D", "C"), ("B", "A"), ("A", None), ("C", None)), ("ABCD", (-1, 0, -1, 2)))
        self.assertEqual(numbers(("D", "A"), ("B", "A"), ("A", None), ("C", None)), ("ADBC", (-1, 0, 0, -1)))
        self.assertEqual(numbers(("E", "C"), ("A", None), ("D", "C"), ("C", "A"), ("B", None)), ("ACEDB", (-1, 0, 1, 1, -1)))
        for pairs in ((("A", "A"),), (("A", "B"), ("B", "A")), (("A", "X"),), (("A", None), ("B", "C"), ("C", "B"))):
            with self.assertRaises(BadProgram):
                numbers(*pairs)

    def test_fields(self):
        core = core_of("package p 1; class B of A { field int c; field A d; } class A { field bytes a; field B b; }", {})
        self.assertEqual([row[3] for row in core[5]], [(BYTES, B), (BYTES, B, INT, A)])
        core = core_of("package p 1; class A { field int a; } class B of A { field int b; int m() { return this.b; } "
                       "int n() { return this.a; } }", {})
        self.assertEqual([method[4][0][1][3] for method in core[5][1][5]], [1, 0])
        self.wrong("package p 1; class A { field int a; field bytes a; }", {})
        self.wrong("package p 1; class A { field int a; } class B of A { field int a; }", {})
        self.wrong("package p 1; class A { field int a; } class B of A { } class C of B { field int a; }", {})
        core_of("package p 1; class A { field int a; } class B { field int a; }", {})
        core_of("package p 1; class A { field int a; int a(int a) { return this.a + a; } }", {})

    def test_tables(self):
        text = """package p 1; class B of A { int d() { return 1; } int b() { return 2; } int c() { return 3; } }
            class A { int a() { return 4; } int b() { return 5; } } class C of B { int a() { return 6; } }"""
        core = core_of(text, {})
        rows = [[(row[0],) + row[3:] for row in one[4]] for one in core[5]]
        self.assertEqual(rows, [
            [("a", 0, 0), ("b", 0, 1)],
            [("a", 0, 0), ("b", 1, 1), ("d", 1, 0), ("c", 1, 2)],
            [("a", 2, 0), ("b", 1, 1), ("d", 1, 0), ("c", 1, 2)],
        ])
        self.wrong("package p 1; class A { int a() { return 1; } int a() { return 1; } }", {})
        self.wrong("package p 1; class A { int a() { return 1; } int a(int b) { return 1; } }", {})
        self.wrong("package p 1; class A { int a() { return 1; } } class B of A { int a(int b) { return 1; } }", {})
        self.wrong("package p 1; class A { int a() { return 1; } } class B of A { nothing a() { } }", {})

    def test_types(self):
        for named, kind in (("A", A), ("F", F), ("bank.Pay", PAY), ("int", INT), ("bytes", BYTES)):
            core = core_of(f"package own 1; use bank 2; face F {{ }} class A {{ field {named} a; nothing m({named} x) {{ }} }}")
            self.assertEqual(core[5][0][3], (kind,))
            self.assertEqual(core[5][0][5][0][1], (kind,))
        for named in ("X", "own.F", "own.A", "Pay", "bank.X", "bank.A", "far.Q", "x.F", "Ask", "bank.F"):
            self.wrong(f"package own 1; use bank 2; face F {{ }} class A {{ field {named} a; }}")
            self.wrong(f"package own 1; use bank 2; face F {{ }} class A {{ nothing m({named} x) {{ }} }}")
            self.wrong(f"package own 1; use bank 2; face F {{ nothing m({named} x); }} class A {{ }}")
            self.wrong(f"package own 1; use bank 2; face F {{ }} class A has {named} {{ }}")
        # A class stands ahead of a face with the same name, but then the names do not differ.
        self.wrong("package own 1; face A { } class A { }")
        self.wrong("package own 1; face F { nothing m(A a); } class A { }")
        self.wrong("package own 1; face F { A m(); } class A { }")
        self.wrong("package own 1; class A has B { } class B { }")
        # The faces of another package with the name of this one are not seen.
        used = {"own": (1, (("F", ()),))}
        self.wrong("package own 1; class A has F { }", used)
        self.wrong("package own 1; class A { field own.F f; }", used)
        self.wrong("package own 1; use own 1; class A { field own.F f; }", used)

    def test_faces(self):
        core = core_of("package p 1; face F { int a(int x, int x); bytes b(int x, G x); } face G { nothing b(); }", {})
        self.assertEqual(core[4], (("F", (("a", (INT, INT), INT), ("b", (INT, ("face", "p", "G")), BYTES))),
                                   ("G", (("b", (), NOTHING),))))
        self.wrong("package p 1; face F { int a(); int a(int x); }", {})
        self.wrong("package p 1; face F { } face F { }", {})
        self.wrong("package p 1; face F { int a(); } class A has F { }", {})
        self.wrong("package p 1; face F { } class A has F, F { }", {})
        self.wrong("package p 1; use bank 2; class A has bank.Pay { int pay(int n) { return n; } }")

    def test_uses(self):
        core_of("package p 1; use bank 2; use far 7;")
        for text in ("use bank 1;", "use x 2;", "use bank 2; use bank 2;", "use p 1;"):
            self.wrong("package p 1; " + text, dict(USED, p=(1, ())))
        self.wrong("package p 1; use bank 2;", {})

    def test_applets(self):
        base = "package p 1; class %s { nothing made(int n) { } int process(int n) { return n; } } class C of B { }"
        base += " class D { }"
        for names, numbers in (("", ()), ("B", (0,)), ("C", (1,)), ("B C", (0, 1)), ("C B", (0, 1)), ("B B", (0,)),
                               ("C B C B", (0, 1))):
            applets = "".join(f" applet {name};" for name in names.split())
            self.assertEqual(core_of(base.replace("%s", "B") + applets, {})[6], numbers)
        for name in ("D", "X", "p", "made"):
            self.wrong(base.replace("%s", "B") + f" applet {name};", {})
        self.wrong("package p 1; face F { nothing made(int n); int process(int n); } applet F;", {})
        self.wrong("package p 1; class B { nothing made(int n) { } } applet B;", {})

    def test_limits(self):
        for count, holds in ((60, True), (61, False)):
            row = tuple(("class", f"C{n}", None, (), (), ()) for n in range(count))
            tree = ("package", "p", 1, (), (), row, ())
            if holds:
                check(tree, {})
            else:
                with self.assertRaises(BadProgram):
                    check(tree, {})
        for count, holds in ((60, True), (61, False)):
            method = ("method", "m", tuple(("int", f"x{n}") for n in range(count)), None, ())
            many = tuple(("method", f"m{n}", (), None, ()) for n in range(60))
            rows = (("class", "A", None, (), (), many), ("class", "B", None, (), (), many),
                    ("class", "C", None, (), (), many[:count - 60]))
            for row in ((("class", "C", None, (), (), (method,)),), rows):
                if holds:
                    check(("package", "p", 1, (), (), row, ()), {})
                else:
                    with self.assertRaises(BadProgram):
                        check(("package", "p", 1, (), (), row, ()), {})
        self.wrong("package p 1; class A { nothing m() { " + "begin; " * 301 + "} }", {})
        core_of("package p 1; class A { nothing m() { " + "begin; " * 300 + "} }", {})
        # A "!=" of references is one deeper in the core tree than in the source tree.
        core_of("package p 1; class A { nothing m() { throw " + "not " * 12 + "(this != this); } }", {})
        self.wrong("package p 1; class A { nothing m() { throw " + "not " * 13 + "(this != this); } }", {})
        core_of("package p 1; class A { nothing m() { throw " + "not " * 13 + "(this == this); } }", {})
        core_of("package p 1; class A { nothing m() { throw " + "not " * 13 + "(1 != 1); } }", {})

    def test_arguments_stay(self):
        used = deepcopy(USED)
        tree = parse(FRAME.replace("%s", "nothing m() { }"))
        check(tree, used)
        self.assertEqual(used, USED)
        self.assertEqual(tree, parse(FRAME.replace("%s", "nothing m() { }")))

    def test_other_entries(self):
        text = FRAME.replace("%s", "nothing m() { }")
        used = {"bank": USED["bank"], "own": "no package", 7: None, "far": (7, (("Q", "no heads"),))}
        self.assertEqual(core_of(text, used), core_of(text))


class StatementTest(Case):
    def test_each_statement(self):
        self.assertEqual(self.body("x = 1;"), ((), (("set", 1, ONE),)))
        self.assertEqual(self.body("y = null;"), ((), (("set", 2, NULL),)))
        self.assertEqual(self.body("this.n = 1; this.a = y;"), ((), (
            ("put", THIS, 0, 0, ONE), ("put", THIS, 0, 2, ("slot", 2)))))
        self.assertEqual(self.body("this.heir.m = x; this.heir.n = x;")[1], (
            ("put", ("get", THIS, 0, 4), 1, 6, ("slot", 1)), ("put", ("get", THIS, 0, 4), 1, 0, ("slot", 1))))
        self.assertEqual(self.body("this.b[x] = 1;")[1], (("store", ("get", THIS, 0, 1), ("slot", 1), ONE),))
        self.assertEqual(self.body("if (x) { } else { begin; }")[1], (("if", ("slot", 1), (), (("begin",),)),))
        self.assertEqual(self.body("while (x) { commit; }")[1], (("while", ("slot", 1), (("commit",),)),))
        self.assertEqual(self.body("throw x;")[1], (("throw", ("slot", 1)),))
        self.assertEqual(self.body("return;")[1], (("return", None),))
        self.assertEqual(self.body("return x;", "int m(int x)")[1], (("return", ("slot", 1)),))
        self.assertEqual(self.body("try { abort; } catch (e) { throw e; }"), (
            (INT,), (("try", (("abort",),), 3, (("throw", ("slot", 3)),)),)))
        self.assertEqual(self.body("this.go(x); y.hush(); this.f.go(1); this.p.give(null, 1);")[1], (
            ("do", ("callc", THIS, 0, 0, (("slot", 1),)), INT), ("do", ("callc", ("slot", 2), 0, 1, ()), NOTHING),
            ("do", ("callf", ("get", THIS, 0, 3), "own", "F", 0, (ONE,)), INT),
            ("do", ("callf", ("get", THIS, 0, 5), "bank", "Pay", 2, (NULL, ONE)), NOTHING)))
        self.assertEqual(self.body("this.p.far();")[1], (
            ("do", ("callf", ("get", THIS, 0, 5), "bank", "Pay", 1, ()), FAR),))

    def test_variables(self):
        self.assertEqual(self.body("int a = 1; B b = null; a = x; bank.Pay p = null; b = new B;"), ((INT, B, PAY), (
            ("set", 3, ONE), ("set", 4, NULL), ("set", 3, ("slot", 1)), ("set", 5, NULL), ("set", 4, ("new", 1)))))
        self.assertEqual(self.body("if (x) { int a = 1; } else { bytes a = null; } F a = y;"), ((INT, BYTES, F), (
            ("if", ("slot", 1), (("set", 3, ONE),), (("set", 4, NULL),)), ("set", 5, ("slot", 2)))))
        self.assertEqual(self.body("while (x) { int a = 1; a = 1; } int a = 1;")[1], (
            ("while", ("slot", 1), (("set", 3, ONE), ("set", 3, ONE))), ("set", 4, ONE)))
        self.assertEqual(self.body("try { int e = 1; } catch (e) { int b = e; } int e = 1; int b = e;"), (
            (INT,) * 5, (("try", (("set", 3, ONE),), 4, (("set", 5, ("slot", 4)),)), ("set", 6, ONE), ("set", 7, ("slot", 6)))))
        self.assertEqual(self.body("int n = this.n; int go = this.go(n); int A = 1; int own = 1;")[0], (INT,) * 4)
        self.assertEqual(self.body("try { try { } catch (a) { } } catch (a) { a = 2; }")[1], (
            ("try", (("try", (), 3, ()),), 4, (("set", 4, ("int", 2)),)),))

    def test_wrong_variables(self):
        for body in ("int x = 1;", "int y = 1;", "int a = 1; int a = 1;", "int a = a;", "a = 1;", "throw a;", "throw A;",
                     "if (x) { int a = 1; } a = 1;", "if (x) { int a = 1; } else { a = 1; }",
                     "while (x) { int a = 1; } throw a;", "int a = 1; if (x) { bytes a = null; }",
                     "int a = 1; while (x) { int a = 1; }", "int a = 1; try { } catch (a) { }", "try { } catch (x) { }",
                     "try { } catch (a) { int a = 1; }", "try { } catch (a) { try { } catch (a) { } }",
                     "try { } catch (a) { try { int a = 1; } catch (b) { } }",
                     "try { throw a; } catch (a) { }", "try { int a = 1; } catch (b) { throw a; }",
                     "try { } catch (a) { } throw a;", "try { } catch (a) { } a = 1;", "X a = null;", "own.F a = null;",
                     "bank.F a = null;", "far.Q a = null;"):
            self.wrong_body(body)
        self.wrong_body("", "nothing m(int a, bytes a)")
        self.body("int a = 1; if (x) { int b = 1; } else { int b = 1; } while (x) { int b = 1; }")

    def test_types_that_do_not_fit(self):
        for body in ("x = y;", "y = x;", "y = 1;", "x = null;", "y = this.f;", "this.heir = y;", "this.n = null;",
                     "this.b = 1;", "this.f = this.p;", "this.p = y;", "x[1] = 1;", "y[1] = 1;", "this.b[y] = 1;",
                     "this.b[1] = y;", "if (y) { }", "while (y) { }", "throw y;", "return x;", "return null;",
                     "x = this.hush();", "this.go();", "this.go(y);", "this.go(1, 1);", "this.hush(1);", "this.p.pay(y);",
                     "this.p.give(y, 1);", "this.p.give(this.p, 1);", "int a = null;", "A a = 1;", "B a = y;", "F a = 1;",
                     "bank.Ask a = y;", "bank.Ask a = this.p;", "return; begin;", "throw 1; throw 1;"):
            self.wrong_body(body)
        for body in ("y = this.heir;", "y = null;", "this.f = y;", "this.f = this.heir;", "this.p = null;",
                     "this.p.give(this.p.far(), 1);", "F a = this.heir;", "this.b = buffer;"):
            self.body(body)
        self.wrong_body("", "int m()")
        self.wrong_body("return;", "int m()")
        self.wrong_body("if (this.n) { return 1; }", "int m()")
        self.wrong_body("while (1) { return 1; }", "int m()")
        self.body("if (this.n) { return 1; } else { throw 1; }", "int m()")
        self.body("try { return 1; } catch (e) { throw e; }", "int m()")


class ExpressionTest(Case):
    def test_each_expression(self):
        y = ("slot", 2)
        for text, e in (("7", ("int", 7)), ("x", ("slot", 1)), ("this.n", ("get", THIS, 0, 0)), ("not x", ("not", ("slot", 1))),
                        ("-x", ("neg", ("slot", 1))), ("x and 1", ("and", ("slot", 1), ONE)),
                        ("x or 1", ("or", ("slot", 1), ONE)), ("this.b[1]", ("at", ("get", THIS, 0, 1), ONE)),
                        ("buffer.size", ("size", ("buffer",))), ("null.size", ("size", NULL)), ("y is B", ("is", y, B)),
                        ("y is bank.Pay", ("is", y, PAY)), ("y.go(x)", ("callc", y, 0, 0, (("slot", 1),))),
                        ("this.heir.up()", ("callc", ("get", THIS, 0, 4), 1, 3, ())),
                        ("this.f.go(1)", ("callf", ("get", THIS, 0, 3), "own", "F", 0, (ONE,)))):
            self.assertEqual(self.value(text), e)
        for text, e in (("null", NULL), ("this", THIS), ("buffer", ("buffer",)), ("y", y), ("new A", ("new", 0)),
                        ("new B", ("new", 1)), ("new bytes(x)", ("bytes", ("slot", 1))), ("new temp(1)", ("temp", ONE)),
                        ("seek F \"a b\"", ("seek", F, "a b")), ("seek bank.Ask \"x\"", ("seek", ASK, "x")),
                        ("(y as F)", ("as", y, F)), ("(null as A)", ("as", NULL, A)), ("(y as B).heir", ("get", ("as", y, B), 1, 4)),
                        ("this.p.far()", ("callf", ("get", THIS, 0, 5), "bank", "Pay", 1, ()))):
            self.assertEqual(self.object(text), e)

    def test_operations(self):
        for sign in ("+", "-", "*", "/", "mod", "&", "|", "^", "<<", ">>", "==", "!=", "<", "<=", ">", ">="):
            self.assertEqual(self.value(f"x {sign} 1"), ("op", sign, ("slot", 1), ONE))
            for left, right in (("y", "1"), ("1", "y"), ("1", "null"), ("null", "1"), ("buffer", "y"), ("buffer", "1")):
                self.wrong_body(f"throw {left} {sign} {right};")
            if sign not in ("==", "!="):
                for side in ("y", "null", "buffer"):
                    self.wrong_body(f"throw {side} {sign} {side};")

    def test_same(self):
        y, f = ("slot", 2), ("get", THIS, 0, 3)
        for left, right, one, other in (("y", "this", y, THIS), ("y", "null", y, NULL), ("null", "y", NULL, y),
                                        ("null", "null", NULL, NULL), ("buffer", "null", ("buffer",), NULL),
                                        ("y", "this.f", y, f), ("this.f", "y", f, y), ("buffer", "buffer", ("buffer",), ("buffer",))):
            self.assertEqual(self.value(f"{left} == {right}"), ("same", one, other))
            self.assertEqual(self.value(f"{left} != {right}"), ("not", ("same", one, other)))
        self.wrong_body("throw this.hush() == null;")
        self.wrong_body("throw null == this.hush();")

    def test_names_that_are_not_there(self):
        for e in ("this.x", "y.m", "null.n", "buffer.n", "x.n", "this.f.n", "this.hush().n", "this.go", "y.y", "this.p.n",
                  "this.no()", "y.up()", "null.go(1)", "buffer.go(1)", "x.go(1)", "this.f.up()", "this.p.go(1)",
                  "this.hush().go(1)", "this.p.far().go()", "new F", "new X", "new bank", "seek A \"x\"", "seek X \"x\"",
                  "seek far.Q \"x\"", "seek own.F \"x\"", "(y as X)", "(y as own.F)", "(x as A)", "(buffer as F)", "y is X",
                  "x is A", "buffer is F", "y is far.Q", "z", "A", "this.hush()", "this.n.go()"):
            self.wrong_body(f"throw ({e}) == null;" if "is" not in e.split() else f"throw {e};")


if __name__ == "__main__":
    unittest.main()
