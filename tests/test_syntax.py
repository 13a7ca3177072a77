"""Points 209 to 211."""

import unittest
from itertools import product
from random import Random

from grammar import TERMINALS, Chart, first_refused
from trees import Maker, bracketed
from values import ANY
from warycard.errors import BadSource
from warycard.forms import is_tree
from warycard.printing import write
from warycard.syntax import parse
from warycard.tokens import tokens

A, B, C, D = [("name", name) for name in "abcd"]
T = ("name", "T")
RANKS = (
    ("or",), ("and",), (), ("==", "!=", "<", "<=", ">", ">="), ("|",), ("^",), ("&",), ("<<", ">>"), ("+", "-"),
    ("*", "/", "mod"),
)
RANK_OF = {sign: rank for rank, signs in enumerate(RANKS, start=1) for sign in signs}
BEGIN = "package p 1; class C { nothing m() {"
END = "} }"


def statements(text):
    """Return the body of the method that has the text."""
    return parse(BEGIN + text + END)[5][0][5][0][4]


def expression(text):
    ((word, found),) = statements(f"throw {text};")
    return found


def sides(sign, left, right):
    return (sign, left, right) if sign in ("or", "and") else ("op", sign, left, right)


class Refusals(unittest.TestCase):
    def refused(self, text, line):
        with self.assertRaises(BadSource, msg=text) as caught:
            parse(text)
        self.assertEqual(caught.exception.line, line, text)
        self.assertIsInstance(caught.exception.reason, str)

    def refused_at(self, text, mark="@"):
        """The text is refused at the token behind the mark, as the first one of its line."""
        before, behind = text.split(mark)
        text = BEGIN + before + "\n" + behind + END
        self.refused(text, 2 + before.count("\n"))


class DeclarationsTest(Refusals):
    def test_package(self):
        self.assertEqual(parse("package p 1;"), ("package", "p", 1, (), (), (), ()))
        self.assertEqual(parse("package p 0;"), ("package", "p", 0, (), (), (), ()))
        self.assertEqual(parse("#x\n  package\n# y\np#z\n255\n;\n"), ("package", "p", 255, (), (), (), ()))
        self.refused("package p 256;", 1)
        self.refused("package\np\n256\n;", 3)

    def test_example(self):
        text = "package p 1; face F { int m(int a); }"
        wanted = ("package", "p", 1, (), (("face", "F", (("m", (("int", "a"),), "int"),)),), (), ())
        self.assertEqual(parse(text), wanted)

    def test_uses_and_applets(self):
        self.assertEqual(parse("package p 1;use a 0;use a 255;")[3], (("a", 0), ("a", 255)))
        self.assertEqual(parse("package p 1;applet a;applet b;applet a;")[6], ("a", "b", "a"))
        self.refused("package p 1;\nuse a\n256;", 3)

    def test_faces(self):
        text = "package p 1; face F{} face G{nothing m();bytes n(T a,of1.T b);a.b o(int x,int x,bytes y);T q();}"
        self.assertEqual(parse(text)[4], (
            ("face", "F", ()),
            ("face", "G", (
                ("m", (), None), ("n", ((T, "a"), (("of", "of1", "T"), "b")), "bytes"),
                ("o", (("int", "x"), ("int", "x"), ("bytes", "y")), ("of", "a", "b")), ("q", (), T),
            )),
        ))

    def test_classes(self):
        text = (
            "package p 1; class C{} class D of C{} class E has F{} class F of C has F,a.G,F{"
            "field int n;field bytes n;field T t;field a.b t;nothing m(){}int n(int a,T b){begin;}a.b o(){}}"
        )
        self.assertEqual(parse(text)[5], (
            ("class", "C", None, (), (), ()),
            ("class", "D", "C", (), (), ()),
            ("class", "E", None, (("name", "F"),), (), ()),
            ("class", "F", "C", (("name", "F"), ("of", "a", "G"), ("name", "F")),
             (("int", "n"), ("bytes", "n"), (T, "t"), (("of", "a", "b"), "t")),
             (("method", "m", (), None, ()), ("method", "n", (("int", "a"), (T, "b")), "int", (("begin",),)),
              ("method", "o", (), ("of", "a", "b"), ()))),
        ))

    def test_order(self):
        text = "package p 1;\nuse a 1;\nface F { }\nclass C { }\napplet C;\n"
        tree = parse(text)
        self.assertEqual([len(part) for part in tree[3:]], [1, 1, 1, 1])
        parts = ("use a 1;", "face F { }", "class C { }", "applet C;")
        for at, first in enumerate(parts):
            for second in parts[:at]:
                self.refused(f"package p 1;\n{first}\n{second}", 3)
        self.refused("package p 1;\npackage p 1;", 2)
        self.refused("\n" + parts[0], 2)
        self.refused("package p 1; class C { nothing m() {}\nfield int n; }", 2)

    def test_refusals(self):
        rows = (
            "package p 1;@}", "package p 1@.", "package@if 1;", "package p@;", "package p 1@}", "package p 1;@;",
            "package p 1; face F { m@(); }", "package p 1; face F { int m()@{ } }",
            "package p 1; face F { int m(int@); }",
            "package p 1; face F { int m(int a,@); }", "package p 1; face F { int m(@nothing a); }",
            "package p 1; face@of { }", "package p 1; face F@of G { }", "package p 1; face F { @field int n; }",
            "package p 1; class C@, { }", "package p 1; class C of a@.b { }", "package p 1; class C has@{ }",
            "package p 1; class C has F@of D { }", "package p 1; class C has F,@{ }",
            "package p 1; class C has@int { }",
            "package p 1; class C { field@nothing n; }", "package p 1; class C { field int n@, }",
            "package p 1; class C { int m()@; }", "package p 1; class C { int m(T@) { } }",
            "package p 1; class C {@; }",
            "package p 1; class C { int@. }", "package p 1; class C { T. @if }", "package p 1; applet p@.C;",
        )
        for row in rows:
            before, behind = row.split("@")
            self.refused(f"{before}\n{behind}", 2)

    def test_too_early(self):
        text = (
            "package p 1; use a 2; face F { int m(int a); } "
            "class C of D has F { field int n; int m(a.b c) { throw (1); } } applet C;"
        )
        words = text.replace("(", " ( ").replace(")", " ) ").replace(";", " ; ").replace(".", " . ").split()
        self.assertTrue(is_tree(parse("\n".join(words))))
        for many in range(len(words)):
            part = "\n".join(words[:many])
            for end, more in (("", 0), ("\n", 1), ("\n\n# x\n", 3), (" # x", 0)):
                if first_refused(words[:many]) is not None:
                    self.refused(part + end, 1 + part.count("\n") + more)
        self.refused("", 1)
        self.refused("\n\n", 3)
        self.refused("package p 1", 1)
        self.refused("package p 1; class C {\n\n", 3)


class StatementsTest(Refusals):
    def test_each(self):
        rows = (
            ("int a = b;", ("var", "int", "a", B)), ("bytes a = b;", ("var", "bytes", "a", B)),
            ("T a = b;", ("var", T, "a", B)),
            ("p.T a = b;", ("var", ("of", "p", "T"), "a", B)), ("a = b or c;", ("set", "a", ("or", B, C))),
            ("a.b = c;", ("put", A, "b", C)), ("a.b.c = d;", ("put", ("get", A, "b"), "c", D)),
            ("this.a = b;", ("put", ("this",), "a", B)), ("5.a = b;", ("put", ("int", 5), "a", B)),
            ("a[b] = c;", ("store", A, B, C)), ("a.b[c][d] = a;", ("store", ("at", ("get", A, "b"), C), D, A)),
            ("a.size[b] = c;", ("store", ("size", A), B, C)), ("new bytes(a)[b] = c;", ("store", ("bytes", A), B, C)),
            ("if (a) { }", ("if", A, (), ())), ("if (a) { } else { }", ("if", A, (), ())),
            ("if (a) { begin; } else { commit; abort; }", ("if", A, (("begin",),), (("commit",), ("abort",)))),
            ("if (a) { } else { begin; }", ("if", A, (), (("begin",),))),
            ("while (a) { begin; }", ("while", A, (("begin",),))), ("while (a) { }", ("while", A, ())),
            ("return;", ("return", None)), ("return a;", ("return", A)), ("return (a);", ("return", A)),
            ("throw -1;", ("throw", ("neg", ("int", 1)))),
            ("try { begin; } catch (e) { abort; }", ("try", (("begin",),), "e", (("abort",),))),
            ("a.f();", ("do", ("call", A, "f", ()))), ("a.b.f(c);", ("do", ("call", ("get", A, "b"), "f", (C,)))),
            ("(a.f());", ("do", ("call", A, "f", ()))), ("((a.f()));", ("do", ("call", A, "f", ()))),
            ("(a + b).f();", ("do", ("call", ("op", "+", A, B), "f", ()))),
            ("5.f();", ("do", ("call", ("int", 5), "f", ()))),
            ("new T.f();", ("do", ("call", ("new", "T"), "f", ()))),
            ('seek p.T "x".f();', ("do", ("call", ("seek", ("of", "p", "T"), "x"), "f", ()))),
            ("begin;", ("begin",)), ("commit;", ("commit",)), ("abort;", ("abort",)),
            ("(a).f = b;", ("put", A, "f", B)),
            ("(a as T).f = b;", ("put", ("as", A, T), "f", B)), ("(a as T)[b] = c;", ("store", ("as", A, T), B, C)),
            ("(a.f)[b] = c;", ("store", ("get", A, "f"), B, C)), ("null.f();", ("do", ("call", ("null",), "f", ()))),
            ("buffer[0] = 1;", ("store", ("buffer",), ("int", 0), ("int", 1))),
        )
        for text, tree in rows:
            with self.subTest(text):
                self.assertEqual(statements(text), (tree,))
                self.assertEqual(statements(f"begin; {text} abort;"), (("begin",), tree, ("abort",)))
                self.assertEqual(statements(f"try {{ {text} }} catch (e) {{ {text} }}"),
                                 (("try", (tree,), "e", (tree,)),))
        self.assertEqual(statements(""), ())

    def test_placing_does_not_matter(self):
        text = 'if(a.f(b,1)is T){x=-1;}else{a[b]=new bytes(3);}return(seek T "x" as U);'
        tree = statements(text)
        for part in ("(", ")", "{", "}", "[", "]", ";", ",", ".", "=", "-"):
            text = text.replace(part, f" # {part}\n\n {part} ")
        self.assertEqual(statements(text), tree)

    def test_examples_of_refusals(self):
        rows = (
            "throw a < b @< c;", "if (a @as T) { }", "(a)@= 1;", "(a.f)@= 1;", "(a[b])@= 1;", "((a).f)@= 1;", "a@;",
            "5@;", "a.f@;", "(a)@;",
            "(a as T)@;", "a[b]@;", "a.f().g@;", "a.size@= 1;", "a.size@;", "a.f()@= 1;", "5@= 1;", "this@= 1;",
            "new T@= 1;", "a@+ b;",
            "@-a;", "@not a;", "T@;", "a b@;", "a.b c@;", "a.b.c@d = 1;", "(a)@b = 1;", "(a).b@c = 1;", "a.size@b = 1;",
            "5@a = 1;",
            "int@= 1;", "int a@;", "int a@.b = 1;", "int@.f();", "a.@if = 1;", "a@(b);", "(a.f)@(b);", "a.f()@(b);",
            "a.size@(b);", "a[b]@(c);", "throw@;", "return@,", "return a@,", "begin@(", "if@a", "if (@) { }",
            "if (a) @begin;",
            "if (a) { } else @if (b) { }", "@else { }", "while (a) { } @else { }", "try { } @begin;",
            "try { } catch @{ }",
            "try { } catch (@1) { }", "try { } catch (a@.b) { }", "try { } catch (@int a) { }", "try@(a) { }", "@{",
            "@{}",
            "a.f(@, b);", "a.f(b,@);", "a.f(b@c);", "a.f(b@;", "a[@] = b;", "a[b@, c] = b;", "a[b@as T] = c;",
            "a.f(b@as T);",
            "throw new bytes(a@as T);", "throw new@int(a);", "throw new bytes@a;", "throw new@buffer;",
            "throw seek@int \"x\";", "throw seek T@;", "throw seek T@x;", "throw @\"x\";", "throw a@\"+\"b;",
            "throw a is@int;",
            "throw a is T.U@.V;", "throw (a as@bytes);", "throw (a as T@+ 1);", "throw (a@;", "throw (@);",
            "throw a@b;",
            "throw @bytes(a);", "throw @size;", "throw a.f.@5;", "throw a@not b;", "throw a +@not b;",
            "throw a ==@not b;", "throw -@not a;",
            "throw a is T@< b;", "throw a < b@is T;", "throw a is T@is U;", "throw a is T@+ b;", "throw a is T@[b];",
            "throw a +@* b;",
            "throw a@= b;", "throw a <@= b;", "@nothing a = 1;", "@field int a;", "@applet a;", "@catch", "@)", "@]",
            "@,", "@=", "@.", "@as",
        )
        for row in rows:
            with self.subTest(row):
                self.refused_at(row)


class ExpressionsTest(Refusals):
    def test_each(self):
        rows = (
            ("a or b", ("or", A, B)), ("a and b", ("and", A, B)), ("not a", ("not", A)), ("a is T", ("is", A, T)),
            ("a is p.T", ("is", A, ("of", "p", "T"))), ("-a", ("neg", A)), ("a.b", ("get", A, "b")),
            ("a.size", ("size", A)),
            ("a[b]", ("at", A, B)), ("a.f()", ("call", A, "f", ())),
            ("a.f(b, c or d)", ("call", A, "f", (B, ("or", C, D)))),
            ("(a as T)", ("as", A, T)), ("(a or b as p.T)", ("as", ("or", A, B), ("of", "p", "T"))), ("0", ("int", 0)),
            ("32767", ("int", 32767)), ("null", ("null",)), ("this", ("this",)), ("buffer", ("buffer",)), ("a", A),
            ("new T", ("new", "T")),
            ("new bytes(a)", ("bytes", A)), ("new temp(a or b)", ("temp", ("or", A, B))),
            ('seek T "a b"', ("seek", T, "a b")),
            ("new bytes((a as T))", ("bytes", ("as", A, T))), ("((a as T) as U)", ("as", ("as", A, T), ("name", "U"))),
            ("a.f((b as T))", ("call", A, "f", (("as", B, T),))),
            ("(a is T as U)", ("as", ("is", A, T), ("name", "U"))),
            ("new T.f.size", ("size", ("get", ("new", "T"), "f"))), ("-a.b", ("neg", ("get", A, "b"))),
            ("(-a).b", ("get", ("neg", A), "b")),
            ("a.f().g(b)[c]", ("at", ("call", ("call", A, "f", ()), "g", (B,)), C)), ("1.f", ("get", ("int", 1), "f")),
            ("a[b or c][d]", ("at", ("at", A, ("or", B, C)), D)), ("(a)", A), ("(((a)))", A),
            ("((a).b)", ("get", A, "b")),
        )
        for text, tree in rows:
            with self.subTest(text):
                self.assertEqual(expression(text), tree)
                self.assertEqual(expression(f"({text})"), tree)
                self.assertEqual(statements(f"if ({text}) {{ }}"), (("if", tree, (), ()),))

    def test_signs(self):
        for sign, rank in RANK_OF.items():
            self.assertEqual(expression(f"a {sign} b"), sides(sign, A, B))
            self.assertEqual(expression(f"(a){sign}(b)"), sides(sign, A, B))

    def test_two_operators_in_a_row(self):
        for first, low in RANK_OF.items():
            for second, high in RANK_OF.items():
                text = f"a {first} b {second} c"
                if low == high == 4:
                    self.refused_at(f"throw a {first} b @{second} c;")
                elif low >= high:
                    self.assertEqual(expression(text), sides(second, sides(first, A, B), C))
                else:
                    self.assertEqual(expression(text), sides(first, A, sides(second, B, C)))
                self.assertEqual(expression(f"(a {first} b) {second} c"), sides(second, sides(first, A, B), C))
                self.assertEqual(expression(f"a {first} (b {second} c)"), sides(first, A, sides(second, B, C)))

    def grouped(self, operands, signs):
        """Return the tree of a row of operators: the last one of the least rank holds the whole."""
        if not signs:
            return operands[0]
        least = min(RANK_OF[sign] for sign in signs)
        at = max(place for place, sign in enumerate(signs) if RANK_OF[sign] == least)
        left = self.grouped(operands[:at + 1], signs[:at])
        return sides(signs[at], left, self.grouped(operands[at + 1:], signs[at + 1:]))

    def test_three_operators_in_a_row(self):
        order = [signs[0] for signs in RANKS if signs]
        for signs in product(order, repeat=3):
            first, second, third = signs
            text = f"a {first} b {second} c {third} d"
            # Two comparisons meet if nothing between them has a lower rank.
            low = [RANK_OF[sign] for sign in signs if RANK_OF[sign] <= 4]
            if (4, 4) in zip(low, low[1:]):
                self.refused(f"{BEGIN} throw {text}; {END}", 1)
                continue
            self.assertEqual(expression(text), self.grouped([A, B, C, D], signs))
            if RANK_OF[third] > 3:
                self.refused_at(f"throw a {first} b {second} c {third} @not d;")

    def test_is_beside_operators(self):
        for sign, rank in RANK_OF.items():
            if rank < 4:
                self.assertEqual(expression(f"a is T {sign} b"), sides(sign, ("is", A, T), B))
                self.assertEqual(expression(f"a {sign} b is T"), sides(sign, A, ("is", B, T)))
            elif rank == 4:
                self.refused_at(f"throw a {sign} b @is T;")
                self.refused_at(f"throw a is T @{sign} b;")
            else:
                self.assertEqual(expression(f"a {sign} b is T"), ("is", sides(sign, A, B), T))
                self.refused_at(f"throw a is T @{sign} b;")
            self.assertEqual(expression(f"(a is T) {sign} b"), sides(sign, ("is", A, T), B))
            self.assertEqual(expression(f"a {sign} (b is T)"), sides(sign, A, ("is", B, T)))
        self.assertEqual(expression("not a is T"), ("not", ("is", A, T)))
        self.assertEqual(expression("-a is T"), ("is", ("neg", A), T))
        self.assertEqual(expression("(a is T) is U"), ("is", ("is", A, T), ("name", "U")))

    def test_not_and_minus_beside_operators(self):
        for sign, rank in RANK_OF.items():
            if rank < 3:
                self.assertEqual(expression(f"not a {sign} b"), sides(sign, ("not", A), B))
                self.assertEqual(expression(f"a {sign} not b"), sides(sign, A, ("not", B)))
            else:
                self.assertEqual(expression(f"not a {sign} b"), ("not", sides(sign, A, B)))
                self.refused_at(f"throw a {sign} @not b;")
            self.assertEqual(expression(f"(not a) {sign} b"), sides(sign, ("not", A), B))
            self.assertEqual(expression(f"a {sign} (not b)"), sides(sign, A, ("not", B)))
            self.assertEqual(expression(f"-a {sign} b"), sides(sign, ("neg", A), B))
            self.assertEqual(expression(f"a {sign} -b"), sides(sign, A, ("neg", B)))
            self.assertEqual(expression(f"a {sign} --b"), sides(sign, A, ("neg", ("neg", B))))
            self.assertEqual(expression(f"-(a {sign} b)"), ("neg", sides(sign, A, B)))
        self.assertEqual(expression("not not a"), ("not", ("not", A)))
        self.assertEqual(expression("not -a"), ("not", ("neg", A)))
        self.assertEqual(expression("-(not a)"), ("neg", ("not", A)))

    def test_examples(self):
        self.assertEqual(expression("a - b - c"), ("op", "-", ("op", "-", A, B), C))
        self.assertEqual(expression("a or b and not c < d + a * -b"), (
            "or", A, ("and", B, ("not", ("op", "<", C, ("op", "+", D, ("op", "*", A, ("neg", B)))))),
        ))
        self.assertEqual(expression("-a * b + c < d and a or b"), (
            "or", ("and", ("op", "<", ("op", "+", ("op", "*", ("neg", A), B), C), D), A), B,
        ))
        self.assertEqual(statements("if ((a as T)) { }"), (("if", ("as", A, T), (), ()),))

    def test_made_expressions_in_brackets(self):
        for seed in range(300):
            e = Maker(seed).expression(7)
            self.assertEqual(expression(bracketed(e)), e)


class LimitsTest(Refusals):
    def test_open_round_brackets(self):
        for many in (1, 22):
            self.assertEqual(expression("(" * many + "a" + ")" * many), A)
        self.refused(BEGIN + "throw " + "(" * 22 + "\n(a" + ")" * 23 + ";" + END, 2)

    def test_open_brackets_of_all_kinds(self):
        opened = "if (a) {\n" * 5 + "a[\n(\na[\na.f(\n(\nnew bytes(\n" * 2 + "a[\n(\na[\na.f("
        self.assertEqual(2 + opened.count("{") + opened.count("[") + opened.count("(") - 5, 23)
        close = ")])]" + ")))])]" * 2
        for bracket, end in (("(", "a)"), ("new temp(", "a)"), ("a.f(", ")"), ("a[", "a]")):
            right = opened + bracket + end + close + "=1;" + "}" * 5
            self.assertTrue(self.only_too_deep(BEGIN + right + END))
            for more, last in (("(", "b)"), ("a.f(", ")"), ("a[", "b]"), ("new bytes(", "b)")):
                wrong = opened + bracket + "\n" + more + last + end[-1] + close + "=1;" + "}" * 5
                self.refused(BEGIN + wrong + END, 2 + opened.count("\n"))

    def only_too_deep(self, text):
        """Tell whether a text is read, or refused for its nesting alone."""
        try:
            parse(text)
        except BadSource as error:
            return error.line == 0
        return True

    def test_open_braces(self):
        def text(many, inner=""):
            return BEGIN + "try {\n" * many + inner + "} catch (a) { }" * many + END

        self.assertTrue(is_tree(parse(text(16))))
        self.refused(text(17), 0)
        self.refused(text(22), 0)
        self.refused(text(23), 23)
        self.refused(text(22, "\n{"), 24)
        self.refused(text(22, "if\n(a) { }"), 24)
        # The round bracket of the first "if" is closed when its brace is the 24th one.
        self.refused(text(21, "if (a)\n{ }"), 0)
        self.refused(text(21, "if (a) {\nif\n(a) { } }"), 24)

    def test_brackets_that_are_closed_do_not_count(self):
        self.assertEqual(len(statements("a.f((b)[c]);" * 300)), 300)
        self.assertEqual(len(parse("package p 1;" + "face F { int m(); }" * 40)[4]), 40)

    def test_depth_of_expressions(self):
        for front, end in (("-", ""), ("not ", ""), ("", ".f"), ("", " + a"), ("", "[a]"), ("", ".f()"), ("", " or a")):
            for many, right in ((14, True), (15, False), (16, False), (300, False), (3000, False)):
                text = BEGIN + "\nthrow " + front * many + "a" + end * many + ";" + END
                if right:
                    self.assertTrue(is_tree(parse(text)))
                else:
                    self.refused(text, 0)
                self.refused(text[:-1] + "\n;}", 3)

    def test_depth_of_statements(self):
        for many, right in ((14, True), (15, False)):
            text = BEGIN + "while (a) {" * many + "throw a;" + "}" * many + END
            if right:
                self.assertTrue(is_tree(parse(text)))
            else:
                self.refused(text, 0)

    def test_which_refusal_comes_first(self):
        deep = "throw " + "-" * 20 + "a;"
        self.refused(BEGIN + deep + END, 0)
        self.refused(BEGIN + deep + "\n;" + END, 2)
        self.refused(BEGIN + deep + "\n", 2)
        self.refused(BEGIN + deep + "\nthrow " + "(" * 22 + "\n(\n;" + END, 3)
        self.refused(BEGIN + "throw\n;\n" + "(" * 40 + END, 2)
        self.refused(BEGIN + "throw " + "(" * 22 + "\n(\n" + deep + "\n!", 4)
        self.refused(";\n\n!", 3)
        self.refused(";\n" + " " * 20000, 0)

    def test_length(self):
        text = BEGIN + "begin;" * 3000 + END
        self.assertTrue(is_tree(parse(text + " " * (20000 - len(text)))))
        self.refused(text + " " * (20001 - len(text)), 0)

    def test_no_strings(self):
        for value in ANY:
            if not isinstance(value, str):
                self.refused(value, 0)


class GrammarTest(Refusals):
    """What is read, and where it is refused, is what the grammar says."""

    words = sorted(TERMINALS) + ["a", "b", "7", "300", '"x"', '"("', '"or"']

    def check(self, row):
        if first_refused(row) is None:
            self.assertTrue(is_tree(parse("\n".join(row))))
        else:
            self.refused("\n".join(row) + "\n", first_refused(row) + 1)

    def test_every_token_behind_some_beginnings(self):
        begin = "package p 1 ; class C { nothing m ( ) {"
        rows = (
            "", "package p", "package p 1 ;", "package p 1 ; use", "package p 1 ; face F {",
            "package p 1 ; face F { int", "package p 1 ; class C",
            "package p 1 ; class C of D", "package p 1 ; class C has", "package p 1 ; class C has F",
            "package p 1 ; class C {",
            "package p 1 ; class C { }", "package p 1 ; applet A ;", "package p 1 ; class C { a m (",
            "package p 1 ; class C { a . b m ( int a",
            begin, begin + " a", begin + " a . b", begin + " a . size", begin + " a . b . c", begin + " a [ b ]",
            begin + " a . f ( )", begin + " a . f (",
            begin + " ( a", begin + " ( a )", begin + " ( a . f ( ) )", begin + " ( a ) . b", begin + " ( a as T",
            begin + " ( a as T )", begin + " 7",
            begin + " new", begin + " new T", begin + " seek", begin + " seek T", begin + " a b", begin + " int",
            begin + " a = b", begin + " a = b < c",
            begin + " a = b is T", begin + " a = not", begin + " a = -", begin + " a = b +", begin + " a = not b",
            begin + " a = b or c", begin + " return",
            begin + " if ( a", begin + " if ( a ) { }", begin + " try { }", begin + " a = b . f ( c",
            begin + " a = b [ c", begin + " a = ( b or c",
            begin + " a = b is c . d", begin + " a = ( b as c . d", begin + " }", begin + " } }",
        )
        for row in rows:
            chart = Chart()
            row = row.split()
            for token in row:
                self.assertTrue(chart.takes(token))
            for word in self.words:
                if chart.takes(word):
                    if not chart.is_whole():
                        self.refused("\n".join(row + [word]) + "\n", len(row) + 2)
                    chart.drop()
                else:
                    self.refused("\n".join(row + [word]) + "\n", len(row) + 1)

    def test_changed_texts(self):
        chance = Random(7)
        for seed in range(150):
            row = self.words_of(Maker(seed + 1000).tree(6))
            self.check(row)
            for _ in range(3):
                changed = list(row)
                at = chance.randrange(len(row))
                changed[at:at + chance.randint(0, 2)] = [chance.choice(self.words) for _ in range(chance.randint(0, 2))]
                self.check(changed)

    def words_of(self, tree):
        rows = tokens(write(tree))[:200]
        return ['"' + value + '"' if kind == "text" else str(value) for kind, value, _ in rows]


if __name__ == "__main__":
    unittest.main()
