"""Points 300 and 314."""

import unittest
from copy import deepcopy

from programs import USED, Programs
from values import ANY
from warycard.checking import check
from warycard.core import is_core
from warycard.errors import BadTree
from warycard.forms import is_tree
from warycard.naming import source
from warycard.printing import write
from warycard.syntax import parse

TEXT = """package own 3; use bank 2; use far 7;
    face Face { int ask(int number, Face other, bytes row); nothing hush(); }
    class Heir of Base has bank.Ask { field bytes more; field Base base; int ask(int i, bytes j) { return j.size; }
        bank.Pay peer() { return null; } }
    class Other { }
    class Base { field int n; field Face side; field bank.Pay pay;
        nothing made(int n) { Other o = new Other; n = n + this.n; int k = n; if (k == 1) { int a = 1; a = a + k; }
            else { bytes a = new temp(3); a[0] = 1; } try { int b = 1; b = 2; } catch (e) { int c = e; e = c; }
            Base last = this; last.n = 5; this.pay.give(this.pay.far(), 1); }
        int process(int many) { begin; abort; commit; while (many > 1 and not many == 2) { many = -many mod 3; }
            if (this.side == null or this is Heir) { this.side.hush(); return this.process(1); }
            if (this != this.pay) { return this.side.ask(1, this.side, buffer); }
            if ((seek bank.Pay "x").pay(1)) { throw (this as Heir).more[1]; }
            return new bytes(3).size; } }
    applet Heir; applet Base;"""
NAMED = """package own 3;
use bank 2;
use far 7;

face Face {
    int ask(int v1, Face v2, bytes v3);
    nothing hush();
}

class Other {
}

class Base {
    field int f0;
    field Face f1;
    field bank.Pay f2;
    nothing made(int v1) {
        Other v2 = new Other;
        v1 = v1 + this.f0;
        int v3 = v1;
        if (v3 == 1) {
            int v4 = 1;
            v4 = v4 + v3;
        } else {
            bytes v5 = new temp(3);
            v5[0] = 1;
        }
        try {
            int v6 = 1;
            v6 = 2;
        } catch (v7) {
            int v8 = v7;
            v7 = v8;
        }
        Base v9 = this;
        v9.f0 = 5;
        this.f2.give(this.f2.far(), 1);
    }
    int process(int v1) {
        begin;
        abort;
        commit;
        while (v1 > 1 and not v1 == 2) {
            v1 = -v1 mod 3;
        }
        if (this.f1 == null or this is Heir) {
            this.f1.hush();
            return this.process(1);
        }
        if (not this == this.f2) {
            return this.f1.ask(1, this.f1, buffer);
        }
        if ((seek bank.Pay "x").pay(1)) {
            throw (this as Heir).f3[1];
        }
        return new bytes(3).size;
    }
}

class Heir of Base has bank.Ask {
    field bytes f3;
    field Base f4;
    int ask(int v1, bytes v2) {
        return v2.size;
    }
    bank.Pay peer() {
        return null;
    }
}

applet Base;
applet Heir;
"""


class NamingTest(unittest.TestCase):
    def test_each_part(self):
        core = check(parse(TEXT), USED)
        tree = source(core, USED)
        # The brackets around a "seek" are not needed.
        self.assertEqual(write(tree), NAMED.replace('(seek bank.Pay "x").pay', 'seek bank.Pay "x".pay'))
        self.assertEqual(check(tree, USED), core)

    def test_classes_keep_their_numbers(self):
        core = check(parse("package p 1; class B of A { } class A { } class C of B { } class D { }"), {})
        self.assertEqual([row[1] for row in source(core, {})[5]], ["A", "B", "C", "D"])
        rows = tuple((name, parent, (), (), (), ()) for name, parent in (("Z", -1), ("Y", -1), ("X", 1), ("W", 0), ("V", 2)))
        core = ("core", "p", 1, (), (), rows, ())
        self.assertEqual([row[1:3] for row in source(core, {})[5]],
                         [("Z", None), ("Y", None), ("X", "Y"), ("W", "Z"), ("V", "X")])
        self.assertEqual(check(source(core, {}), {}), core)

    def test_there_and_back(self):
        for seed in range(120):
            core = Programs(seed).core()
            tree = source(core, USED)
            self.assertIs(is_tree(tree), True)
            self.assertEqual(check(tree, USED), core)
            self.assertEqual([row[1] for row in tree[5]], [row[0] for row in core[5]])
            self.assertEqual(tree[6], tuple(core[5][k][0] for k in core[6]))

    def test_other_values(self):
        for value in ANY:
            with self.assertRaises(BadTree):
                source(value, {})
        core = check(parse(TEXT), USED)
        for value, used in ((core, {}), (list(core), USED), (core[:6] + ((2, 1),), USED), (parse(TEXT), USED),
                            (core, dict(USED, bank=(1, USED["bank"][1])))):
            self.assertIs(is_core(value, used), False)
            with self.assertRaises(BadTree):
                source(value, used)

    def test_arguments_stay(self):
        used = deepcopy(USED)
        core = check(parse(TEXT), used)
        source(core, used)
        self.assertEqual(used, USED)
        self.assertEqual(core, check(parse(TEXT), USED))


if __name__ == "__main__":
    unittest.main()
