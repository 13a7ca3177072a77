"""Points 400 to 413: what methods do on a plain card."""

import unittest

from cards import OK, answer, card_of, fault, log_of, program, ready, refused, value
from warycard.limits import DEPTH, DIVIDED, KIND, LOOK, NULL, PLACE, ROOM, SIZE, STEPS, TRANSACTION
from warycard.words import SIGNS, op


class ExpressionTest(unittest.TestCase):
    def test_leaves(self):
        self.assertEqual(value("7"), 7)
        self.assertEqual(value("32767"), 32767)
        self.assertEqual(value("many + k", "int k = 3;"), 3)
        self.assertEqual(value("buffer.size"), 64)
        self.assertEqual(value("(null as A) == null"), 1)
        self.assertEqual(answer("return many;", (5, 6, 7)), ("ok", (5, 6, 7)))

    def test_operations(self):
        for sign in SIGNS:
            for left in (0, 1, -7, 255, 32767):
                for right in (0, -1, 2, 17):
                    wanted = op(sign, left, right)
                    found = value(f"i {sign} j", f"int i = {left}; int j = {right};")
                    self.assertEqual(found, fault(DIVIDED) if wanted is None else wanted, (sign, left, right))
        self.assertEqual(value("-(32767 + 1)"), -32768)
        self.assertEqual([value(f"not {n}") for n in ("0", "1", "-1", "256")], [1, 0, 0, 0])
        self.assertEqual([value(f"-{n}") for n in ("0", "1", "-5", "32767")], [0, -1, 5, -32767])

    def test_and_or(self):
        for left in (0, 1, 5):
            for right in (0, 1, 7):
                self.assertEqual(value(f"{left} and {right}"), int(left != 0 and right != 0))
                self.assertEqual(value(f"{left} or {right}"), int(left != 0 or right != 0))
        for test, logged in (("this.log(1) and this.log(2)", (1, 2)), ("this.log(1) or this.log(2)", (1,)),
                             ("this.log(1) == 0 and this.log(2)", (1,)), ("this.log(1) == 0 or this.log(2)", (1, 2))):
            self.assertEqual(log_of(f"int k = {test}; throw -1;"), logged + (-1,))
        self.assertEqual(value("0 and 1 / 0"), 0)
        self.assertEqual(value("1 or 1 / 0"), 1)
        self.assertEqual(value("1 and 1 / 0"), fault(DIVIDED))
        self.assertEqual(value("0 or 1 / 0"), fault(DIVIDED))

    def test_same(self):
        for e, wanted in (("this == this", 1), ("this == null", 0), ("null == null", 1), ("this == new A", 0),
                          ("new A == new A", 0), ("buffer == buffer", 1), ("buffer == null", 0), ("this != new A", 1),
                          ("new temp(1) == new temp(1)", 0), ("this.f == null", 1), ("(this as F) == this", 1),
                          ("this.b == null", 1), ("new bytes(0) == buffer", 0), ("this != null", 1)):
            self.assertEqual(value(e), wanted, e)

    def test_get_and_first_values(self):
        self.assertEqual(value("this.n"), 0)
        for field in ("b", "a", "f", "heir"):
            self.assertEqual(value(f"this.{field} == null"), 1)
        self.assertEqual(value("a.n", "A a = null;"), fault(NULL))
        self.assertEqual(value("(new B).n", "this.n = 5;"), 0)
        self.assertEqual(value("this.n", "this.n = 5;"), 5)

    def test_bytes(self):
        for word in ("bytes", "temp"):
            self.assertEqual(value(f"new {word}(5).size"), 5)
            self.assertEqual(value(f"new {word}(0).size"), 0)
            self.assertEqual(value(f"new {word}(64).size"), 64)
            self.assertEqual(value(f"new {word}(64)[63]"), 0)
            for size in ("-1", "65", "32767", "-32767"):
                self.assertEqual(value(f"new {word}({size}).size"), fault(SIZE))
            for place in ("-1", "5", "32767"):
                self.assertEqual(value(f"new {word}(5)[{place}]"), fault(PLACE))
            self.assertEqual(value(f"new {word}(0)[0]"), fault(PLACE))
            for stored, held in (("0", 0), ("255", 255), ("256", 0), ("-1", 255), ("-256", 0), ("1000", 232), ("-32767", 1)):
                self.assertEqual(value("row[2]", f"bytes row = new {word}(3); row[2] = {stored};"), held)
                self.assertEqual(value("row[1]", f"bytes row = new {word}(3); row[2] = {stored};"), 0)
        self.assertEqual(value("buffer[63]"), 0)
        self.assertEqual(value("buffer[64]"), fault(PLACE))
        self.assertEqual(value("buffer[-1]"), fault(PLACE))
        for e in ("b[0]", "b.size", "b[-1]", "(null as A).n", "null[0]", "null.size"):
            self.assertEqual(value(e, "bytes b = null;"), fault(NULL), e)

    def test_is_and_as(self):
        heir = "A b = new B; A a = new A; A no = null; D d = new D; F f = b; F g = a;"
        for e, wanted in (("b is A", 1), ("b is B", 1), ("a is A", 1), ("a is B", 0), ("no is A", 0), ("no is F", 0),
                          ("d is A", 0), ("d is D", 1), ("d is F", 0), ("b is F", 1), ("b is G", 1), ("a is G", 0),
                          ("f is B", 1), ("g is B", 0), ("g is G", 0), ("f is G", 1), ("null is A", 0), ("a is D", 0)):
            self.assertEqual(value(e, heir), wanted, e)
        for e, wanted in (("(b as B) == b", 1), ("(b as A) == b", 1), ("(a as F) == a", 1), ("(b as G) == b", 1),
                          ("(no as B) == null", 1), ("(no as G) == null", 1), ("(null as D) == null", 1)):
            self.assertEqual(value(e, heir), wanted, e)
        for e in ("(a as B)", "(a as G)", "(d as A)", "(d as F)", "(g as G)", "(g as B)", "(b as D)"):
            self.assertEqual(value(f"{e} == null", heir), fault(KIND), e)

    def test_calls(self):
        self.assertEqual(value("this.back(9)"), 9)
        self.assertEqual(value("a.twice(9)", "A a = new A;"), 19)
        self.assertEqual(value("a.twice(9)", "A a = new B;"), 18)
        self.assertEqual(value("f.twice(9)", "F f = new B;"), 18)
        self.assertEqual(value("f.twice(9)", "F f = new A;"), 19)
        self.assertEqual(value("f.back(9)", "F f = new B;"), 9)
        self.assertEqual(value("this.pick(3, 4, 5)", members="int pick(int i, int j, int k) { return i * 100 + j * 10 + k; }"), 345)
        self.assertEqual(value("a.back(1)", "A a = null;"), fault(NULL))
        self.assertEqual(value("f.back(1)", "F f = null;"), fault(NULL))
        self.assertEqual(value("new B.who(2)", members="int who(int i) { if (this is B) { return 1; } return 0; }"), 1)

    def test_method_without_result(self):
        self.assertEqual(value("this.n", "this.put(5);", "nothing put(int i) { this.n = i; }"), 5)
        self.assertEqual(value("this.n", "this.put(5);", "nothing put(int i) { if (i == 5) { return; } this.n = i; }"), 0)

    def test_order_of_operands(self):
        log = "this.log({})"
        one, two, three = (log.format(n) for n in (1, 2, 3))
        for body in (f"int k = {one} + {two} * {three};", f"int k = {one} < {two}; k = {three};",
                     f"this.row(1)[{two} mod 2] = {three};", f"int k = this.row(1)[{two} mod 2]; k = {three};",
                     f"this.me(1).n = {two}; {three};", f"this.me(1).quiet({two}, {three});",
                     f"F f = this; int k = this.me(1).back({two}); {three};", f"int k = this.me(1) == this.me(2); {three};",
                     f"int k = {one} and {two} and {three};", f"int k = this.me(1) is B; k = {two} - {three};"):
            self.assertEqual(log_of(body + " throw -1;"), (1, 2, 3, -1), body)
        # The operands come ahead of every fault.
        for body, code in ((f"this.norow(1)[{two}] = {three};", NULL), (f"this.row(1)[{two} + 9] = {three};", PLACE),
                           (f"this.none(1).n = {two} + {three};", NULL), (f"this.none(1).quiet({two}, {three});", NULL),
                           (f"int k = this.norow(1)[{two} + {three}];", NULL), (f"int k = {one} / ({two} - {two}); {three};", DIVIDED),
                           (f"F f = this.none(1); f.twice({two} + {three});", NULL)):
            wanted = (1, 2, 2) if "k = this.log(1) /" in body else (1, 2, 3)
            self.assertEqual(log_of(body), wanted + (code,), body)
        self.assertEqual(log_of("this.norow(1)[this.log(2) / 0] = this.log(3);"), (1, 2, DIVIDED))
        self.assertEqual(log_of("this.none(1).n = this.log(2) / 0;"), (1, 2, DIVIDED))
        self.assertEqual(log_of("this.none(1).b = buffer;"), (1, NULL))

    def test_seek(self):
        text = program("return this.show(this.look(seek F \"one\") * 10 + this.look(seek F \"two\"));",
                       "int look(F f) { if (f == null) { return 0; } if (f == this) { return 1; } return f.twice(1); }")
        other = "package q 1; class C { nothing made(int n) { } int process(int n) { return 0; } } applet C;"
        card = card_of(text, other)
        card.make("p", "A", "one", ())
        card.choose(0, "one")
        self.assertEqual(card.send(0, ())[1], (0, 10))
        card.make("p", "B", "two", ())
        self.assertEqual(card.send(0, ())[1], (0, 12))
        card.choose(1, "two")
        self.assertEqual(card.send(1, ())[1], (0, 31))
        card.reset()
        card.drop("two")
        card.choose(0, "one")
        self.assertEqual(card.send(0, ())[1], (0, 10))
        # An object of another type is not found.
        card.make("q", "C", "two", ())
        self.assertEqual(card.send(0, ())[1], (0, 10))

    def test_seek_while_it_is_made(self):
        text = program("return this.n;").replace("nothing made(int many) { }",
                                                 "nothing made(int many) { if (seek F \"one\" != null) { this.n = 1; } }")
        card = card_of(text)
        card.make("p", "A", "one", ())
        card.make("p", "A", "two", ())
        for name, many in (("one", 0), ("two", 1)):
            card.choose(0, name)
            self.assertEqual(card.send(0, ()), ("ok", (0,) * many))


class StatementTest(unittest.TestCase):
    def test_if_and_while(self):
        for test, wanted in (("1", 1), ("0", 2), ("-1", 1), ("256", 1), ("many", 2)):
            self.assertEqual(value("k", f"int k = 0; if ({test}) {{ k = 1; }} else {{ k = 2; }}"), wanted)
        self.assertEqual(value("k", "int k = 0; if (0) { k = 1; }"), 0)
        self.assertEqual(value("k", "int k = 5; int s = 0; while (k) { s = s + k; k = k - 1; } k = s;"), 15)
        self.assertEqual(value("1", "while (1) { return this.show(4); }"), 4)
        self.assertEqual(value("k", "int k = 0; while (k != k) { k = 1; }"), 0)

    def test_put(self):
        self.assertEqual(value("this.n", "this.n = -5;"), -5)
        self.assertEqual(value("this.a == this", "this.a = this;"), 1)
        self.assertEqual(value("this.b == null", "this.b = new bytes(1); this.b = null;"), 1)
        self.assertEqual(value("this.b[1]", "this.b = new temp(2); this.b[1] = 9;"), 9)
        self.assertEqual(value("1", "this.b = buffer;"), fault(LOOK))
        self.assertEqual(value("1", "bytes b = buffer; this.b = b;"), fault(LOOK))
        self.assertEqual(value("1", "A a = null; a.b = buffer;"), fault(NULL))
        self.assertEqual(value("1", "A a = null; a.n = 1;"), fault(NULL))
        self.assertEqual(value("this.heir.n", "this.heir = new B; this.heir.n = 4;"), 4)

    def test_store(self):
        self.assertEqual(value("1", "bytes b = null; b[0] = 1;"), fault(NULL))
        for place in ("-1", "3", "32767"):
            self.assertEqual(value("1", f"bytes b = new bytes(3); b[{place}] = 1;"), fault(PLACE))
        self.assertEqual(value("b[0] * 100 + b[2]", "bytes b = new bytes(3); b[0] = 1; b[2] = 7;"), 107)

    def test_throw_and_try(self):
        for code in (0, 1, -1, -5, -9, -10, 77, 32767, -32767):
            self.assertEqual(value("1", f"if (1) {{ throw {code}; }}"), fault(code))
            self.assertEqual(value("k", f"int k = 1; try {{ throw {code}; }} catch (e) {{ k = e; }}"), code)
        for wrong, code in (("int k = 1 / 0;", DIVIDED), ("bytes b = null; int k = b[0];", NULL),
                            ("int k = buffer[64];", PLACE), ("A a = this; D d = (a as D);", KIND), ("commit;", TRANSACTION),
                            ("bytes b = new bytes(65);", SIZE), ("this.b = buffer;", LOOK)):
            self.assertEqual(value("k", f"int k = 1; try {{ {wrong.replace('k', 'z')} }} catch (e) {{ k = e; }}"), code)

    def test_innermost_try(self):
        catch = "int k = 0; try { try { %s } catch (e) { k = e + 10; %s } } catch (f) { k = k * 100 + f; }"
        self.assertEqual(value("k", catch.replace("%s", "throw 1;", 1).replace("%s", "")), 11)
        self.assertEqual(value("k", catch.replace("%s", "throw 1;", 1).replace("%s", "throw 2;")), 1102)
        self.assertEqual(value("k", catch.replace("%s", "", 1).replace("%s", "throw 2;")), 0)
        self.assertEqual(value("k", "int k = 0; try { k = 1; throw 5; } catch (e) { k = k + e; } k = k + 100;"), 106)
        self.assertEqual(value("1", "try { } catch (e) { } if (1) { throw 4; }"), fault(4))
        self.assertEqual(value("k", "int k = 0; try { k = 3; } catch (e) { k = 9; }"), 3)
        self.assertEqual(value("k", "int k = 0; try { throw 1; } catch (e) { try { throw e + 1; } catch (f) { k = f; } }"), 2)
        self.assertEqual(value("1", "try { return this.show(8); } catch (e) { }"), 8)
        self.assertEqual(value("1", "if (1) { try { throw 1; } catch (e) { return this.show(9); } }"), 9)
        self.assertEqual(value("k", "int k = 0; while (k < 5) { try { k = k + 1; throw 1; } catch (e) { k = k + e; } }"), 6)

    def test_faults_of_called_methods(self):
        members = ("int bad(int i) { throw i; } int deep(int i) { return this.bad(i) + 1; } "
                   "int caught(int i) { try { return this.bad(i); } catch (e) { return e * 2; } }")
        self.assertEqual(value("k", "int k = 0; try { k = this.deep(3); } catch (e) { k = e; }", members), 3)
        self.assertEqual(value("this.caught(4)", "", members), 8)
        self.assertEqual(value("this.deep(5)", "", members), fault(5))
        # What was done ahead of the fault stays, and the method goes on with its own slots and depth.
        members += "int put(int i) { this.n = i; i = 1 / 0; return i; }"
        self.assertEqual(value("this.n + k", "int k = 1; try { k = this.put(6); } catch (e) { k = k + 1; }", members), 8)

    def test_changes_stay_behind_a_fault(self):
        card = ready("this.n = this.n + 1; buffer[0] = 9; throw this.n;")
        self.assertEqual([card.send(0, ()) for _ in range(3)], [fault(1), fault(2), fault(3)])
        self.assertEqual(card.state()[1][0][2][0], 3)


LOOP = "int i = 0; while (i < {}) {{ i = i + 1; }} "


class StepTest(unittest.TestCase):
    def test_steps_of_while(self):
        # A loop that ends behind k rounds takes k + 1 steps; "show" takes one more.
        self.assertEqual(value("i", LOOP.format(998)), 998)
        self.assertEqual(value("i", LOOP.format(999)), fault(STEPS))
        self.assertEqual(answer(LOOP.format(999) + "return 0;"), ("ok", ()))
        self.assertEqual(answer(LOOP.format(1000) + "return 0;"), fault(STEPS))
        self.assertEqual(answer("while (1) { } return 0;"), fault(STEPS))

        # A loop that is left within a round takes no step behind it.
        body = "int i = 0; while (1) {{ i = i + 1; if (i == {}) {{ return 0; }} }}"
        self.assertEqual(answer(body.format(1000)), ("ok", ()))
        self.assertEqual(answer(body.format(1001)), fault(STEPS))
        self.assertEqual(answer(body.replace("return 0;", "throw 7;").format(1000)), fault(7))

    def test_steps_of_calls(self):
        for call in ("this.back(1)", "f.back(1)"):
            body = "F f = this; " + LOOP.replace("i = i + 1;", f"i = i + {call};")
            self.assertEqual(answer(body.format(499) + f"{call}; return 0;"), ("ok", ()))
            self.assertEqual(answer(body.format(499) + f"{call}; {call}; return 0;"), fault(STEPS))
            self.assertEqual(answer(body.format(500) + "return 0;"), fault(STEPS))
        # A call of null makes no step.
        body = "A a = null; " + LOOP.format(999) + "try { a.back(1); } catch (e) { if (e == 0 - 1) { return 1; } } return 0;"
        self.assertEqual(answer(body), ("ok", (0,)))

    def test_steps_are_not_caught(self):
        body = "try { while (1) { } } catch (e) { return 5; } return 0;"
        self.assertEqual(answer(body), fault(STEPS))
        body = LOOP.format(999) + "try { this.back(1); } catch (e) { return 5; } return 0;"
        self.assertEqual(answer(body), fault(STEPS))
        members = "int run(int k) { while (1) { } return 0; } int safe(int k) { try { return this.run(1); } catch (e) { return 7; } }"
        self.assertEqual(answer("try { return this.safe(1); } catch (e) { return 6; }", (), members), fault(STEPS))
        self.assertEqual(answer("try { throw 0 - 10; } catch (e) { return 1; }"), ("ok", (0,)))
        self.assertEqual(answer("throw 0 - 10;"), fault(STEPS))

    def test_steps_begin_anew(self):
        card = ready(LOOP.format(999) + "return 0;")
        for _ in range(3):
            self.assertEqual(card.send(0, ()), ("ok", ()))

    def test_steps_gone_put_back(self):
        card = ready("begin; this.n = 5; while (1) { } return 0;")
        self.assertEqual(card.send(0, ()), fault(STEPS))
        self.assertEqual(card.state()[1][0][2][0], 0)

    def test_depth(self):
        members = ("int down(int k) { if (k == 0) { return 0; } return this.down(k - 1); } "
                   "int safe(int k) { try { return this.safe(k + 1); } catch (e) { return e * 100 - k; } }")
        # "process" is the first of 8 methods, and "down" with k runs k + 1 more.
        self.assertEqual(answer("return this.down(6);", (), members), ("ok", ()))
        self.assertEqual(answer("return this.down(7);", (), members), fault(DEPTH))
        self.assertEqual(value("this.safe(1)", "", members), -907)
        # Null is asked for ahead of the step, and the step ahead of the depth.
        members = ("int down(int k) { if (k == 0) { return (null as A).back(1); } return this.down(k - 1); }")
        self.assertEqual(answer("return this.down(6);", (), members), fault(NULL))
        members = ("int down(int k) { if (k == 0) { %s return this.back(1); } return this.down(k - 1); }")
        self.assertEqual(answer("return this.down(6);", (), members.replace("%s", LOOP.format(991))), fault(DEPTH))
        self.assertEqual(answer("return this.down(6);", (), members.replace("%s", LOOP.format(992))), fault(STEPS))
        self.assertEqual(answer("return this.down(5);", (), members.replace("%s", LOOP.format(992))), ("ok", (0,)))

    def test_depth_is_given_back(self):
        members = "int down(int k) { if (k == 0) { return 0; } return this.down(k - 1); }"
        body = "int k = 0; while (k < 5) { try { this.down(7); } catch (e) { k = k + 1; } } return this.down(6);"
        self.assertEqual(answer(body, (), members), ("ok", ()))


ASIDE = """package q 1; use p 1;
    class C { field int n; nothing made(int k) { } int process(int k) { p.F f = seek p.F "one"; if (1) { %s } return 0; } }
    applet C;"""


class OwnerTest(unittest.TestCase):
    # The class A of the package p gives away its bytes and itself by the methods of its face F.
    OTHER = """package p 1; face F { bytes give(int k); F me(); int take(F f); int read(bytes b); nothing write(bytes b);
        int long(bytes b); int asks(F f); int cast(F f); int seen(F f); int nulls(bytes b, F f); int mine(); }
        class A has F { field int n; field bytes own; field bytes gone; field A a;
            nothing made(int k) { this.own = new bytes(3); this.own[1] = 8; this.gone = new temp(2); this.gone[0] = 5; }
            int process(int k) { return this.n; }
            bytes give(int k) { this.n = this.n + k; if (k == 2) { return this.gone; } if (k == 3) { return buffer; }
                if (k == 4) { return new bytes(1); } return this.own; }
            F me() { return this; } int mine() { return this.own[1] + this.gone[0] * 100; }
            int take(F f) { if (f == this) { return 1; } return 0; }
            int read(bytes b) { return b[0]; } nothing write(bytes b) { b[0] = 7; } int long(bytes b) { return b.size; }
            int asks(F f) { return f is A; } int cast(F f) { A a = (f as A); return a.n; } int seen(F f) { return (f as F) is F; }
            int nulls(bytes b, F f) { return f is A; } } applet A;"""

    def run_aside(self, body, members=""):
        text = ASIDE.replace("%s", body).replace("class C {", "class C { " + members)
        card = card_of(self.OTHER, text)
        self.assertEqual(card.make("p", "A", "one", ()), OK)
        self.assertEqual(card.make("q", "C", "two", ()), OK)
        card.choose(0, "two")
        self.card = card
        return card.send(0, ())

    def test_looks_that_do_not_pass(self):
        for k in (1, 2, 4):
            for use in (f"return f.give({k})[0];", f"return f.give({k}).size;", f"bytes b = f.give({k}); b[0] = 1;"):
                self.assertEqual(self.run_aside(use), fault(LOOK), use)
                self.assertEqual(self.run_aside("try { " + use + " } catch (e) { return 0 - e - 4; }"), ("ok", (0,)))
        # The look comes ahead of the place.
        self.assertEqual(self.run_aside("return f.give(1)[99];"), fault(LOOK))
        self.assertEqual(self.run_aside("bytes b = f.give(1); b[99] = 1;"), fault(LOOK))

    def test_looks_that_pass(self):
        for body, many in (("return f.give(3).size;", 64), ("return f.give(3)[0];", 0),
                           ("bytes b = f.give(3); b[0] = 2; return b[0];", 2), ("return f.mine() mod 100;", 8),
                           ("return f.read(buffer);", 0), ("f.write(buffer); return buffer[0];", 7),
                           ("return f.long(buffer);", 64), ("return f.read(f.give(1));", 0), ("return f.long(f.give(2));", 2),
                           ("f.write(f.give(1)); return 1;", 1), ("return f.asks(f.me());", 1), ("return f.cast(f.me());", 0),
                           ("return f.seen(f.me());", 1), ("return f.take(f.me());", 1), ("return f.me() == f;", 1),
                           ("return f.me() is p.F;", 1), ("return (f as p.F) == f;", 1), ("return f.asks(null);", 0)):
            found = self.run_aside(body)
            self.assertEqual((found[0], len(found[1])), ("ok", many), body)

    def test_looks_at_objects(self):
        text = """package q 1; use p 1; class C has p.F { nothing made(int k) { } int process(int k) { p.F f = seek p.F "one";
            p.F g = seek p.F "three"; if (1) { %s } return 0; } bytes give(int k) { return null; } p.F me() { return this; }
            int take(p.F f) { return 0; } int read(bytes b) { return 0; } nothing write(bytes b) { } int long(bytes b)
            { return 0; } int asks(p.F f) { return 0; } int cast(p.F f) { return 0; } int seen(p.F f) { return 0; }
            int nulls(bytes b, p.F f) { return 0; } int mine() { return 0; } } applet C;"""
        for body, found in (("return f.asks(this);", fault(LOOK)), ("return f.cast(this);", fault(LOOK)),
                            ("return f.asks(g);", fault(LOOK)), ("return f.cast(g);", fault(LOOK)),
                            ("return f.asks(f);", ("ok", (0,))), ("return f.cast(f);", ("ok", ())),
                            ("return g.asks(g);", ("ok", (0,))), ("return f.cast(null);", fault(NULL)),
                            ("return f.seen(this);", ("ok", (0,))), ("return f.seen(g);", ("ok", (0,))),
                            ("return f.asks(null);", ("ok", ())), ("return this is C;", ("ok", (0,))),
                            ("return f is C;", fault(LOOK)), ("return (f as C) == null;", fault(LOOK))):
            card = card_of(self.OTHER, text.replace("%s", body))
            for package, name, applet in (("p", "A", "one"), ("q", "C", "two"), ("p", "A", "three")):
                self.assertEqual(card.make(package, name, applet, ()), OK)
            card.choose(0, "two")
            self.assertEqual(card.send(0, ()), found, body)

    def test_foreign_bytes_given_back(self):
        for use, code in (("return f.read(new bytes(1));", LOOK), ("f.write(new temp(1));", LOOK),
                          ("return f.long(new bytes(1));", LOOK), ("return f.read(null);", NULL)):
            self.assertEqual(self.run_aside(use), fault(code), use)


if __name__ == "__main__":
    unittest.main()
