"""Point 212."""

import unittest

from trees import SIGNS, Maker, program
from values import ANY
from warycard.errors import BadSource, BadTree
from warycard.printing import write
from warycard.syntax import parse
from warycard.tokens import tokens

A, B, C = [("name", name) for name in "abc"]
T = ("name", "T")


def lines(*body):
    """Return the lines of a body as they stand in a method, without the indentation of the method."""
    rows = write(program(*body)).split("\n")
    assert rows[:4] == ["package p 1;", "", "class C {", "    nothing m() {"]
    assert rows[-3:] == ["    }", "}", ""]
    return [row[8:] for row in rows[4:-3]]


def text(e):
    """Return the text of an expression."""
    (row,) = lines(("throw", e))
    assert row.startswith("throw ") and row.endswith(";")
    return row[6:-1]


def op(sign, left, right):
    return (sign, left, right) if sign in ("or", "and") else ("op", sign, left, right)


class WriteTest(unittest.TestCase):
    def test_example(self):
        tree = ("package", "p", 1, (("bank", 2),), (), (("class", "C", None, (), (("int", "n"),), ()),), ("C",))
        self.assertEqual(write(tree), "package p 1;\nuse bank 2;\n\nclass C {\n    field int n;\n}\n\napplet C;\n")

    def test_package(self):
        self.assertEqual(write(("package", "p", 0, (), (), (), ())), "package p 0;\n")
        self.assertEqual(
            write(("package", "p", 255, (("a", 0), ("b", 9)), (), (), ("x", "x"))),
            "package p 255;\nuse a 0;\nuse b 9;\n\napplet x;\napplet x;\n",
        )

    def test_faces_and_classes(self):
        of = ("of", "q", "U")
        tree = (
            "package", "p", 1, (),
            (("face", "F", ()),
             ("face", "G", (("m", (), None), ("n", (("int", "a"), (of, "b")), "bytes"), ("o", ((T, "a"),), of)))),
            (
                ("class", "A", None, (), (), ()), ("class", "B", "A", (), (), ()), ("class", "C", None, (T,), (), ()),
                ("class", "D", "C", (T, of, T), (("bytes", "x"), (of, "y")), (
                    ("method", "m", (), None, ()), ("method", "n", ((T, "a"), ("int", "b")), T, (("begin",),)),
                )),
            ),
            ("A",),
        )
        self.assertEqual(write(tree), "\n".join((
            "package p 1;", "", "face F {", "}", "", "face G {", "    nothing m();", "    bytes n(int a, q.U b);",
            "    q.U o(T a);",
            "}", "", "class A {", "}", "", "class B of A {", "}", "", "class C has T {", "}", "",
            "class D of C has T, q.U, T {",
            "    field bytes x;", "    field q.U y;", "    nothing m() {", "    }", "    T n(T a, int b) {",
            "        begin;", "    }",
            "}", "", "applet A;", "",
        )))

    def test_statements(self):
        rows = (
            (("var", "int", "a", B), "int a = b;"), (("var", "bytes", "a", B), "bytes a = b;"),
            (("var", T, "a", B), "T a = b;"),
            (("var", ("of", "p", "T"), "a", ("or", B, C)), "p.T a = b or c;"), (("set", "a", ("neg", B)), "a = -b;"),
            (("put", A, "b", C), "a.b = c;"), (("put", ("neg", A), "b", ("as", C, T)), "(-a).b = (c as T);"),
            (("put", ("as", A, T), "b", C), "(a as T).b = c;"), (("store", A, B, C), "a[b] = c;"),
            (("store", ("op", "+", A, B), ("or", A, B), ("and", A, B)), "(a + b)[a or b] = a and b;"),
            (("return", None), "return;"), (("return", A), "return a;"), (("return", ("as", A, T)), "return (a as T);"),
            (("throw", ("neg", A)), "throw -a;"), (("do", ("call", A, "f", ())), "a.f();"),
            (("do", ("call", ("not", A), "f", (B, ("or", A, B)))), "(not a).f(b, a or b);"),
            (("begin",), "begin;"), (("commit",), "commit;"), (("abort",), "abort;"),
        )
        for tree, row in rows:
            self.assertEqual(lines(tree), [row])
        self.assertEqual(lines(*[tree for tree, _ in rows]), [row for _, row in rows])

    def test_braces(self):
        inner = ("begin",)
        rows = (
            (("if", A, (), ()), ["if (a) {", "}"]), (("if", A, (inner,), ()), ["if (a) {", "    begin;", "}"]),
            (("if", ("or", A, B), (), (inner, inner)), ["if (a or b) {", "} else {", "    begin;", "    begin;", "}"]),
            (("if", ("as", A, T), (inner,), (inner,)),
             ["if ((a as T)) {", "    begin;", "} else {", "    begin;", "}"]),
            (("while", ("not", A), ()), ["while (not a) {", "}"]),
            (("while", A, (inner,)), ["while (a) {", "    begin;", "}"]),
            (("try", (), "e", ()), ["try {", "} catch (e) {", "}"]),
            (("try", (inner,), "e", (inner,)), ["try {", "    begin;", "} catch (e) {", "    begin;", "}"]),
            (("while", A, (("if", B, (("try", (), "e", (inner,)),), ()), inner)),
             ["while (a) {", "    if (b) {", "        try {", "        } catch (e) {", "            begin;",
              "        }", "    }",
              "    begin;", "}"]),
        )
        for tree, wanted in rows:
            self.assertEqual(lines(tree), wanted)

    def test_expressions(self):
        rows = (
            (("or", A, B), "a or b"), (("and", A, B), "a and b"), (("not", A), "not a"),
            (("not", ("not", A)), "not not a"),
            (("is", A, T), "a is T"), (("is", A, ("of", "p", "T")), "a is p.T"), (("neg", A), "-a"),
            (("neg", ("neg", A)), "--a"),
            (("neg", ("int", 5)), "-5"), (("not", ("neg", A)), "not -a"), (("neg", ("not", A)), "-(not a)"),
            (("get", A, "b"), "a.b"),
            (("size", A), "a.size"), (("at", A, B), "a[b]"), (("at", ("at", A, ("or", B, C)), C), "a[b or c][c]"),
            (("call", A, "f", ()), "a.f()"), (("call", A, "f", (B,)), "a.f(b)"),
            (("call", A, "f", (B, ("or", B, C), C)), "a.f(b, b or c, c)"),
            (("as", A, T), "(a as T)"), (("as", ("or", A, B), ("of", "p", "T")), "(a or b as p.T)"),
            (("as", ("as", A, T), T), "((a as T) as T)"),
            (("as", ("is", A, T), T), "(a is T as T)"), (("call", A, "f", (("as", B, T),)), "a.f((b as T))"),
            (("int", 0), "0"),
            (("int", 32767), "32767"), (("null",), "null"), (("this",), "this"), (("buffer",), "buffer"),
            (("new", "T"), "new T"),
            (("get", ("new", "T"), "f"), "new T.f"), (("bytes", A), "new bytes(a)"),
            (("temp", ("or", A, B)), "new temp(a or b)"),
            (("bytes", ("as", A, T)), "new bytes((a as T))"), (("seek", T, "a b"), 'seek T "a b"'),
            (("seek", ("of", "p", "T"), "#"), 'seek p.T "#"'), (("size", ("seek", T, "a")), 'seek T "a".size'),
            (("get", ("int", 5), "f"), "5.f"), (("get", ("neg", ("int", 5)), "f"), "(-5).f"),
            (("neg", ("get", A, "f")), "-a.f"),
            (("op", "-", A, ("neg", B)), "a - -b"), (("op", "-", ("neg", A), B), "-a - b"),
            (("op", "mod", A, ("neg", B)), "a mod -b"),
        )
        for tree, wanted in rows:
            self.assertEqual(text(tree), wanted)

    def test_brackets_of_two_operators(self):
        order = "or and == | ^ & << + *".split()
        for low, first in enumerate(order):
            for high, second in enumerate(order):
                left, right = op(second, op(first, A, B), C), op(first, A, op(second, B, C))
                needed = low < high or first == second == "=="
                self.assertEqual(text(left), f"(a {first} b) {second} c" if needed else f"a {first} b {second} c")
                needed = high <= low
                self.assertEqual(text(right), f"a {first} (b {second} c)" if needed else f"a {first} b {second} c")

    def test_brackets_of_equal_ranks(self):
        for row in (("==", "!=", "<", "<=", ">", ">="), ("<<", ">>"), ("+", "-"), ("*", "/", "mod")):
            for first in row:
                for second in row:
                    left = f"(a {first} b) {second} c" if "==" in row else f"a {first} b {second} c"
                    self.assertEqual(text(op(second, op(first, A, B), C)), left)
                    self.assertEqual(text(op(first, A, op(second, B, C))), f"a {first} (b {second} c)")

    def test_brackets_beside_not_is_and_minus(self):
        for sign in ("or", "and") + SIGNS:
            low = sign in ("or", "and")
            compares = sign in ("==", "!=", "<", "<=", ">", ">=")
            rows = (
                (op(sign, ("not", A), B), f"not a {sign} b" if low else f"(not a) {sign} b"),
                (op(sign, A, ("not", B)), f"a {sign} not b" if low else f"a {sign} (not b)"),
                (("not", op(sign, A, B)), f"not (a {sign} b)" if low else f"not a {sign} b"),
                (op(sign, ("is", A, T), B), f"a is T {sign} b" if low else f"(a is T) {sign} b"),
                (op(sign, A, ("is", B, T)), f"a {sign} b is T" if low else f"a {sign} (b is T)"),
                (("is", op(sign, A, B), T), f"(a {sign} b) is T" if low or compares else f"a {sign} b is T"),
                (op(sign, ("neg", A), ("neg", B)), f"-a {sign} -b"), (("neg", op(sign, A, B)), f"-(a {sign} b)"),
                (("size", op(sign, A, B)), f"(a {sign} b).size"),
                (("at", op(sign, A, B), op(sign, A, B)), f"(a {sign} b)[a {sign} b]"),
                (("bytes", op(sign, A, B)), f"new bytes(a {sign} b)"),
                (("as", op(sign, A, B), T), f"(a {sign} b as T)"),
            )
            for tree, wanted in rows:
                self.assertEqual(text(tree), wanted)
        self.assertEqual(text(("is", ("is", A, T), T)), "(a is T) is T")
        self.assertEqual(text(("not", ("is", A, T))), "not a is T")
        self.assertEqual(text(("is", ("not", A), T)), "(not a) is T")
        self.assertEqual(text(("is", ("neg", A), T)), "-a is T")
        self.assertEqual(text(("neg", ("is", A, T))), "-(a is T)")

    def test_what_was_written_is_read_again(self):
        for seed in range(200):
            tree = Maker(seed).tree(7)
            found = write(tree)
            if len(found) <= 20000:
                self.assertEqual(parse(found), tree)
                self.assertEqual(write(parse(found)), found)

    def test_what_is_deeply_nested_is_read_again(self):
        for seed in range(60):
            maker = Maker(seed)
            e = maker.leaf()
            for depth in range(14):
                word = maker.chance.choice(("or", "not", "op", "neg", "is", "as", "get", "at", "call", "bytes"))
                rows = {
                    "or": ("or", e, A),
                    "op": ("op", maker.chance.choice(SIGNS), *maker.chance.choice(((A, e), (e, A)))),
                    "is": ("is", e, T), "as": ("as", e, T), "get": ("get", e, "f"),
                    "at": ("at", *maker.chance.choice(((A, e), (e, A)))),
                    "call": ("call", A, "f", (e,)),
                }
                e = rows.get(word, (word, e))
            tree = program(("throw", e))
            self.assertEqual(parse(write(tree)), tree)
            self.assertRaises(BadTree, write, program(("while", A, (("throw", e),))))

    def test_each_bracket_is_needed(self):
        """Without a pair of brackets around an expression, the text has another tree or none."""
        for seed in range(120):
            tree = program(("throw", Maker(seed).expression(6)))
            row = [f'"{value}"' if kind == "text" else str(value) for kind, value, _ in tokens(write(tree))]
            for at, mark in enumerate(row):
                if mark == "(":
                    end = self.end_of(row, at)
                    other = row[:at] + row[at + 1:end] + row[end + 1:]
                    try:
                        self.assertNotEqual(parse(" ".join(other)), tree)
                    except BadSource:
                        pass

    def end_of(self, row, at):
        """Return the place of the bracket that closes the one at a place."""
        many = 0
        for place in range(at, len(row)):
            many += (row[place] == "(") - (row[place] == ")")
            if many == 0:
                return place

    def test_spaces(self):
        """Each line begins with its indentation, and no two spaces stand together elsewhere."""
        for seed in range(60):
            depth = 0
            for row in write(Maker(seed).tree(7)).split("\n"):
                shown = row.lstrip(" ")
                depth -= shown.startswith("}")
                self.assertEqual(len(row) - len(shown), 4 * depth if shown else 0)
                depth += shown.endswith("{")
                self.assertEqual(shown, shown.rstrip(" "))
                self.assertNotIn("  ", shown)
                if shown:
                    self.assertTrue(shown.endswith((";", "{", "}")))

    def test_long_texts(self):
        tree = program(*[("set", "a" * 20, ("name", "b" * 20))] * 500)
        found = write(tree)
        self.assertGreater(len(found), 20000)
        self.assertRaises(BadSource, parse, found)

    def test_no_trees(self):
        for value in ANY:
            self.assertRaises(BadTree, write, value)
        deep = A
        for _ in range(15):
            deep = ("neg", deep)
        wrong = (
            program(("throw", deep)), program(A), program(("set", "if", A)), program(("set", "a", ["name", "a"])),
            program(("do", A)),
            ("package", "p", True, (), (), (), ()), ("package", "p", 256, (), (), (), ()),
            ["package", "p", 1, (), (), (), ()],
            ("package", "p", 1, (), (), ()),
        )
        for value in wrong:
            self.assertRaises(BadTree, write, value)


if __name__ == "__main__":
    unittest.main()
