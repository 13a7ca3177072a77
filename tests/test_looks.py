"""Points 900 to 909: papers and their judge, by hand."""

import unittest

from cards import cores_of
from codebundle import world_of
from warycard.compiling import build
from warycard.errors import BadPaper
from warycard.looks import judge, paper

PAY = "package bank 2; face Pay { bytes peer(bytes b, Pay p); int many(bytes b); }"


def worlds(text):
    """Return a world with the bank and another package, and the module of the latter."""
    modules = [build(core, improve=False) for core in cores_of(PAY, text)]
    return world_of(*modules), modules[1]


class Own:
    """The package own, whose classes are handed in."""

    def __init__(self, classes):
        self.world, self.module = worlds("package own 1; use bank 2; face Take { int take(bytes b, Take t); } " + classes)
        self.paper = paper(self.world, "own")
        self.looks = judge(self.world, "own", self.paper)

    def number(self, k, name):
        """Return the number of the method with a name that a class defines."""
        return [method[:2] for method in self.module[6]].index((k, name))

    def code(self, number):
        return self.module[6][number][6]

    def call(self, number):
        """Return what is claimed of a method."""
        return dict((row[0], row[1:]) for row in self.paper[2]).get(number)

    def needless(self, number):
        """Return the names of the instructions of a method whose looks are needless, and of those whose looks are not."""
        words = ("at", "setat", "size", "is", "as")
        rows = [(place, line[0]) for place, line in enumerate(self.code(number))
                if line[0] in words and (line[0] not in ("is", "as") or line[1][0] == "class")]
        return ([word for place, word in rows if (number, place) in self.looks],
                [word for place, word in rows if (number, place) not in self.looks])


def one_class(members, more=""):
    return "class A { " + members + " } " + more


def method(body, head="nothing m(bytes b, Take t, int i, A a)"):
    return head + " { " + body + " }"


class PaperTest(unittest.TestCase):
    def test_fields(self):
        own = Own("""
            class A { field int n; field bytes b; field Take t; field bank.Pay p; field A a;
                nothing m(A other) { this.b = new bytes(3); this.t = null; this.p = other.p; this.a = other; } }
            class B of A { field bytes c; field Take u; }
        """)
        self.assertEqual(own.paper, ("looks", ((0, 1), (0, 2), (0, 3), (1, 5), (1, 6)), (), ()))
        own = Own("""
            class A { field bytes b; field Take t; field bank.Pay p; }
            class B of A { field bytes c;
                nothing m(bank.Pay p) { this.b = p.peer(null, null); this.p = seek bank.Pay "x"; } }
        """)
        # The field of the parent, not of the class itself; the buffer is own.
        self.assertEqual(own.paper[1], ((0, 1), (1, 3)))
        own = Own("class A { field bytes b; nothing m() { this.b = buffer; } }")
        self.assertEqual(own.paper[1], ((0, 0),))

    def test_params_and_results(self):
        own = Own(one_class("""
            bytes give(bytes b, Take t, int i, A a) { return b; }
            bytes far(bank.Pay p) { return p.peer(null, p); }
            Take near(bytes b) { return null; }
            int number(bytes b) { return b.size; }
            nothing m(A a) { a.give(buffer, null, 3, a); a.number(a.far(null)); a.near(null); }
        """))
        self.assertEqual([own.call(number) for number in range(5)], [((1, 2), 1), ((1,), 0), ((1,), 1), None, None])
        # What is given up because another claim is: far, then number, through two calls.
        own = Own(one_class("""
            int last(bytes b) { return b[0]; }
            int next(bytes b) { return this.last(this.through(b)); }
            bytes through(bytes b) { return b; }
            int first(bank.Pay p) { return this.next(p.peer(null, null)); }
        """))
        self.assertEqual(own.paper[2], ((3, (1,), 0),))
        self.assertEqual(own.looks, ())
        own = Own(one_class("""
            int last(bytes b) { return b[0]; }
            int next(bytes b) { return this.last(this.through(b)); }
            bytes through(bytes b) { return b; }
            int first(bank.Pay p) { return this.next(new temp(p.many(null))); }
        """))
        self.assertEqual(own.paper[2], ((0, (1,), 0), (1, (1,), 0), (2, (1,), 1), (3, (1,), 0)))
        self.assertEqual(own.looks, ((0, 2),))

    def test_a_field_that_is_given_up(self):
        """The field, what a method returns of it, and another field that this is put into."""
        classes = """class A {{ field bytes b; field bytes c; field bytes d;
            bytes get() {{ return this.b; }}
            nothing move() {{ this.c = this.get(); }}
            nothing put(bank.Pay p) {{ this.b = {}; }}
            int m() {{ return this.b.size + this.c[0] + this.d.size; }} }}"""
        own = Own(classes.format("p.peer(null, null)"))
        self.assertEqual(own.paper[1], ((0, 2),))
        self.assertEqual(own.paper[2], ((2, (1,), 0),))
        self.assertEqual(own.needless(3), (["size"], ["size", "at"]))
        own = Own(classes.format("null"))
        self.assertEqual(own.paper[1], ((0, 0), (0, 1), (0, 2)))
        self.assertEqual(own.paper[2], ((0, (), 1), (2, (1,), 0)))
        self.assertEqual(own.needless(3), (["size", "at", "size"], []))

    def test_methods_that_are_led_to(self):
        own = Own("""
            class A has Take { int take(bytes b, Take t) { return b.size; } int other(bytes b) { return b.size; } }
            class B of A { int take(bytes b, Take t) { return b[0]; } int other(bytes b) { return b[0]; } }
            class C { int take(bytes b, Take t) { return b.size; } }
            class D has bank.Pay { bytes peer(bytes b, bank.Pay p) { return b; } int many(bytes b) { return 1; } bytes more(bytes b) { return b; } }
        """)
        # A row of the class that lists the face, of its heir, and of one without it.
        self.assertEqual([own.call(number) for number in (0, 1, 2, 3, 4)], [None, ((1,), 0), None, ((1,), 0), ((1, 2), 0)])
        self.assertEqual([own.call(number) for number in (5, 6, 7)], [None, None, ((1,), 1)])
        self.assertEqual(own.needless(1), (["size"], []))
        # An heir has the face, so the method of the parent is led to.
        own = Own("class A { int take(bytes b, Take t) { return b.size; } } class B of A has Take { }")
        self.assertEqual(own.call(0), None)
        # A method that is led to may have a claimed result.
        own = Own("""class A has bank.Pay { bytes peer(bytes b, bank.Pay p) { return new bytes(2); } int many(bytes b) { return b.size; }
                     int m() { return this.peer(null, null).size; } }""")
        self.assertEqual(own.paper[2], ((0, (), 1),))
        self.assertEqual((own.needless(1), own.needless(2)), (([], ["size"]), (["size"], [])))
        applet = "class A { nothing made(int n) { } int process(int n) { return 0; } } applet A;"
        self.assertEqual(Own(applet).paper, ("looks", (), (), ()))
        # The judge refuses claims of such params; those of an applet's methods have no type that may be claimed.
        for place in (0, 1):
            own = Own("class A has bank.Pay { bytes peer(bytes b, bank.Pay p) { return b; } int many(bytes b) { return 1; } }")
            self.assertRaises(BadPaper, judge, own.world, "own", ("looks", (), ((place, (1,), 0),), ()))
            self.assertEqual(judge(own.world, "own", ("looks", (), ((place, (), 0),), ())), ())

    def test_overridden_rows(self):
        classes = """
            class A {{ bytes m(bytes b) {{ return null; }} }}
            class B of A {{ bytes m(bytes b) {{ return {}; }} }}
            class C of A {{ }}
            class D of B {{ bytes m(bytes b) {{ return b; }} }}
            class E {{ int up(A a, {} p) {{ return a.m({}).size; }} int low(C c) {{ return c.m(null).size; }} }}
        """
        own = Own(classes.format("null", "bank.Pay", "buffer"))
        self.assertEqual([own.call(number) for number in range(3)], [((1,), 1)] * 3)
        self.assertEqual((own.needless(3), own.needless(4)), ((["size"], []), (["size"], [])))
        # The result of one of them is foreign; the class C has only the first one.
        own = Own(classes.format("(seek bank.Pay \"x\").peer(null, null)", "bank.Pay", "buffer"))
        self.assertEqual([own.call(number) for number in range(3)], [((1,), 1), ((1,), 0), ((1,), 1)])
        self.assertEqual((own.needless(3), own.needless(4)), (([], ["size"]), (["size"], [])))
        # An argument that is loose breaks the claims of all of them.
        own = Own(classes.format("null", "bank.Pay", "p.peer(null, null)"))
        self.assertEqual([own.call(number) for number in range(3)], [(( ), 1), ((), 1), None])
        self.assertEqual((own.needless(3), own.needless(4)), (([], ["size"]), (["size"], [])))

    def test_ways_that_meet(self):
        own = Own(one_class(method("""
            bytes x = new bytes(1);
            if (i) { i = x.size; x = (seek bank.Pay "x").peer(x, null); } else { x = buffer; }
            i = x.size;
            x = buffer;
            i = x.size;
        """)))
        self.assertEqual(own.needless(0), (["size", "size"], ["size"]))
        number, place, slots, stack = own.paper[3][-1]
        self.assertEqual((number, slots, stack), (0, (5,), ()))
        # A loop: what is loose behind its body is loose ahead of it, too.
        own = Own(one_class(method("""
            bytes x = new bytes(1); bytes y = new bytes(1);
            i = y.size;
            while (i) { i = y.size; y = x; x = (seek bank.Pay "x").peer(null, null); }
            i = x.size;
        """)))
        self.assertEqual(own.needless(0), (["size"], ["size", "size"]))
        self.assertEqual([row[2:] for row in own.paper[3]], [((5, 6), ()), ((5, 6), ())])
        self.assertEqual(own.call(0), ((1, 2), 0))

    def test_handlers(self):
        own = Own(one_class(method("""
            bytes x = new bytes(1); bytes y = buffer; bytes z = null;
            try { i = x.size; x = (seek bank.Pay "x").peer(null, null); i = 1 / i; x = buffer; }
            catch (f) { i = x.size; i = y.size; y = x; }
            z = (seek bank.Pay "x").peer(null, null);
            i = x.size + y.size + z.size;
        """)))
        self.assertEqual(own.needless(0), (["size", "size"], ["size"] * 4))
        # What is loose ahead of the last instruction of a range, but not behind it.
        self.assertEqual([row[2:] for row in own.paper[3]], [((5,), ()), ((5, 6), ())])
        # A store in the last place of a range is no matter for the handler.
        own = Own(one_class(method("""
            bytes x = null; bytes y = null;
            y = (seek bank.Pay "x").peer(null, null);
            try { x = y; } catch (f) { i = x.size; }
        """)))
        self.assertEqual(own.needless(0), (["size"], []))

    def test_instructions(self):
        own = Own("""class A has Take { int take(bytes b, Take t) { return 0; }
            nothing m(bank.Pay p, bytes b, Take t, A a) {
                int i = (t as A).take(null, null) + (a is A) + (b.size + b[0]);
                bank.Pay q = seek bank.Pay "x";
                Take u = seek Take "y";
                i = (q is A) + (u is A) + ((a as Take) is A) + ((q as Take) is A) + ((t as bank.Pay) is A);
                u = (u as A);
                i = (u is A);
                b[0] = 1;
                (new bytes(1))[0] = (new temp(2))[0];
                b = null;
                i = b.size + buffer.size;
                q = p;
                i = (q is A);
            } }""")
        self.assertEqual(own.needless(1), (["as", "is", "size", "at", "is", "is", "is", "setat", "at", "setat", "size", "size", "is"],
                                           ["is", "is", "is", "as"]))

    def test_places_on_the_stack(self):
        own = Own(one_class("int two(bytes b, bytes c) { return b.size; } " + method("""
            i = this.two((seek bank.Pay "x").peer(null, null), new bytes(i or 1));
            i = this.two(new bytes(i or 1), new bytes(i or 1));
        """)))
        # Jumps of each "or" lead to three places. The loose value lies at the place 1, behind the object.
        self.assertEqual([row[2:] for row in own.paper[3]], [((), (1,))] * 3 + [((), ())] * 6)
        self.assertEqual(own.call(0), ((2,), 0))

    def test_places_alone_that_jumps_and_handlers_lead_to(self):
        own = Own(one_class("int m(bytes b) { if (b.size) { return 1; } try { throw 2; } catch (f) { return f; } } "
                            "int n(bytes b) { return b.size; }"))
        code = own.code(0)
        self.assertEqual([line[0] for line in code], ["load", "size", "jumpnot", "const", "returnv", "const", "throw", "store", "load", "returnv"])
        self.assertEqual(own.paper[3], ((0, 5, (), ()), (0, 7, (), ())))
        self.assertEqual(own.paper[2], ((0, (1,), 0), (1, (1,), 0)))
        self.assertEqual(own.looks, ((0, 1), (1, 1)))


class JudgeTest(unittest.TestCase):
    def setUp(self):
        # The method 0 has a jump to a step, one that goes on, and a handler; the method 1 takes bytes and gives them back.
        self.own = Own(one_class("""
            field bytes f; field int n;
            int m(bytes b, int i) {
                while (i) { i = b.size; }
                try { b = this.same(b); i = b[0]; } catch (f) { i = this.f.size; }
                return i;
            }
            bytes same(bytes b) { return b; }
        """))
        self.fields, self.calls, self.places = self.own.paper[1:]

    def judge(self, fields=None, calls=None, places=None):
        rows = [mine if given is None else given
                for mine, given in ((self.fields, fields), (self.calls, calls), (self.places, places))]
        return judge(self.own.world, "own", ("looks",) + tuple(rows))

    def bad(self, **parts):
        self.assertRaises(BadPaper, self.judge, **parts)

    def test_the_whole_paper(self):
        code = [line[0] for line in self.own.code(0)]
        self.assertEqual(self.fields, ((0, 0),))
        self.assertEqual(self.calls, ((0, (1,), 0), (1, (1,), 1)))
        ways = [0, code.index("jumpnot")]
        ways = sorted({0, self.own.code(0)[ways[1]][1], self.own.module[6][0][7][0][2], [line[1] for line in self.own.code(0)
                                                                                        if line[0] == "jump"][1]})
        self.assertEqual(self.places, tuple((0, place, (), ()) for place in ways))
        looks = [place for place, word in enumerate(code) if word in ("at", "size")]
        self.assertEqual(self.judge(), tuple((0, place) for place in looks))
        self.assertEqual(len(looks), 3)

    def test_claims_that_are_left_out(self):
        looks = self.judge()
        # The field alone.
        self.assertEqual(self.judge(fields=()), looks[:2])
        # The param of the first method is loose in the second one, too.
        self.bad(calls=((1, (1,), 1),))
        self.bad(calls=((0, (1,), 0), (1, (), 1)))
        # If the result is not claimed, the param is loose behind the call.
        loose = tuple((number, place, (1,), ()) for number, place, _, _ in self.places)
        self.bad(calls=((0, (1,), 0), (1, (1,), 0)))
        self.bad(calls=((0, (1,), 0), (1, (1,), 0)), places=self.places[:3] + loose[3:])
        self.assertEqual(self.judge(calls=((0, (1,), 0), (1, (1,), 0)), places=self.places[:2] + loose[2:]), looks[::2])
        self.assertEqual(self.judge(calls=((0, (1,), 0),), places=self.places[:2] + loose[2:]), looks[::2])
        # A paper that claims nothing but names the places.
        self.assertEqual(self.judge((), (), loose), ())
        self.bad(fields=(), calls=(), places=self.places)
        self.assertEqual(self.judge((), (), loose), self.judge((), ((0, (), 0), (1, (), 0)), loose))
        self.bad(fields=(), calls=((0, (1,), 0), (1, (1,), 1)), places=loose)
        self.bad(fields=(), calls=((1, (), 1),), places=loose)
    def test_places_that_are_left_out_or_put_in(self):
        for number in range(len(self.places)):
            self.bad(places=self.places[:number] + self.places[number + 1:])
        code = self.own.code(0)
        named = [row[1] for row in self.places]
        for place in range(len(code)):
            if place not in named:
                rows = tuple(sorted(self.places + ((0, place, (), ()),)))
                self.assertEqual(self.judge(places=rows), self.judge())
        self.bad(places=self.places + ((0, len(code), (), ()),))
        self.bad(places=self.places + ((2, 0, (), ()),))
        self.bad(places=((-1, 0, (), ()),) + self.places)
        self.bad(places=((0, -1, (), ()),) + self.places)

    def test_slots_and_places_on_the_stack(self):
        first = self.places[0]
        for slots in ((0,), (2,), (99,), (-1,), (1, 1), [1], (True,), ("1",), 1):
            self.bad(places=(first[:2] + (slots, ()),) + self.places[1:])
        # There is nothing on the stack, and the stack of the method has two values at most.
        most = self.own.module[6][0][5]
        for stack in ((0,), (most - 1,), (most,), (-1,), [0], (False,), 0):
            self.bad(places=(first[:3] + (stack,),) + self.places[1:])
        # A place with an object of a class, and with bytes behind it.
        code = self.own.code(0)
        place = [line[0] for line in code].index("callc")
        rows = [tuple(sorted(self.places + ((0, place, (), stack),))) for stack in ((), (0,), (1,), (0, 1))]
        self.assertEqual(self.judge(places=rows[0]), self.judge())
        self.bad(places=rows[1])
        self.bad(places=rows[2])
        self.bad(places=rows[3])
        # The argument may be loose there if the method does not claim its param.
        loose = tuple(row[:2] + ((1,) if row[1] > place else (), row[3]) for row in rows[2])
        self.assertEqual(self.judge(places=loose, calls=((0, (1,), 0),)), self.judge()[::2])
        self.bad(places=loose)

    def test_rows_for_places_that_are_not_reached(self):
        own = Own(one_class("nothing m(bytes b) { } nothing n(bytes b) { return; }"))
        head = ("m", (("bytes",),), ("nothing",))
        code = (("return",), ("load", 1), ("size",), ("pop",), ("jump", 1))
        module = ("module", "x", 1, (), (), (("A", -1, (), (), (head + (0,),)),), ((0,) + head + ((), 3, code, ()),), ())
        world = world_of(module)
        self.assertEqual(paper(world, "x"), ("looks", (), ((0, (1,), 0),), ()))
        for place in range(1, 5):
            for slots, stack in (((), ()), ((1,), ()), ((), (0, 2)), ((1,), (1,))):
                self.assertEqual(judge(world, "x", ("looks", (), (), ((0, place, slots, stack),))), ())
            self.assertRaises(BadPaper, judge, world, "x", ("looks", (), (), ((0, place, (0,), ()),)))
            self.assertRaises(BadPaper, judge, world, "x", ("looks", (), (), ((0, place, (), (3,)),)))
        self.assertEqual(own.looks, ())

    def test_a_place_to_which_a_later_jump_alone_leads(self):
        head = ("m", (("bytes",),), ("nothing",))
        code = (("jump", 4), ("step",), ("load", 1), ("jump", 7), ("const", 1), ("jumpif", 1), ("load", 1), ("size",), ("pop",), ("return",))
        module = ("module", "x", 1, (), (), (("A", -1, (), (), (head + (0,),)),), ((0,) + head + ((), 3, code, ()),), ())
        world = world_of(module)
        best = paper(world, "x")
        self.assertEqual(best, ("looks", (), ((0, (1,), 0),), ((0, 1, (), ()), (0, 4, (), ()), (0, 7, (), ()))))
        self.assertEqual(judge(world, "x", best), ((0, 7),))
        for places in (best[3][1:], best[3][:1] + best[3][2:], best[3][:2]):
            self.assertRaises(BadPaper, judge, world, "x", best[:3] + (places,))
        # What is loose at the step is loose at the place to which both ways lead.
        loose = tuple((number, place, (1,), (0,) * (place == 7)) for number, place, _, _ in best[3])
        self.assertEqual(judge(world, "x", best[:3] + (loose,)), ())
        self.assertRaises(BadPaper, judge, world, "x", best[:3] + (loose[:1] + best[3][1:],))
        self.assertEqual(judge(world, "x", best[:3] + (loose[:1] + best[3][1:2] + loose[2:],)), ())

    def test_rows_for_the_same_place(self):
        first = self.places[0]
        for row in (first, first[:2] + ((1,), ()), first[:2] + ((), (0,))):
            self.bad(places=(first, row) + self.places[1:])
            self.bad(places=(row, first) + self.places[1:])
        self.bad(places=(self.places[1], first) + self.places[2:])
        self.bad(calls=(self.calls[0][:1] + ((), 0),) + self.calls)

    def test_fields_and_calls(self):
        for fields in (((0, 1),), ((0, 2),), ((1, 0),), ((-1, 0),), ((0, -1),), ((0, 0), (0, 0)), ((False, 0),), ((0, False),),
                       [(0, 0)], ([0, 0],), ((0,),), ((0, 0, 0),), (0, 0), ((0, 0), (0, 1)), ((0.0, 0),), (("0", 0),)):
            self.bad(fields=fields)
        for calls in (((0, (2,), 0),), ((0, (0,), 0),), ((0, (3,), 0),), ((0, (1, 1), 0),), ((0, [1], 0),), ((0, (1,), 1),),
                      ((0, (1,), True),), ((0, (1,), 2),), ((0, (1,), -1),), ((2, (), 0),), ((-1, (), 0),), ((True, (), 0),),
                      ((1, (1,), 1), (0, (1,), 0)), ((0, (1,), 0), (0, (1,), 0)), ((0, (1,)),), ((0, (1,), 0, 0),), (0, (1,), 0)):
            self.bad(calls=calls)
        self.assertEqual(self.judge(calls=self.calls[:1] + ((1, (1,), 1),)), self.judge())
        self.bad(calls=())

    def test_a_field_of_the_parent(self):
        own = Own("class A { field bytes b; } class B of A { field bytes c; nothing m() { this.b = null; this.c = null; } }")
        self.assertEqual(own.paper[1], ((0, 0), (1, 1)))
        self.assertEqual(judge(own.world, "own", ("looks", ((1, 1),), (), ())), ())
        for fields in (((1, 0),), ((0, 0), (1, 0)), ((0, 1),), ((1, 1), (0, 0))):
            self.assertRaises(BadPaper, judge, own.world, "own", ("looks", fields, (), ()))

    def test_other_forms(self):
        whole = self.own.paper
        for value in (None, "looks", ("looks",), whole[:3], whole + ((),), ("look",) + whole[1:], list(whole), (whole,), (),
                      (b"looks",) + whole[1:], ("looks", (), None, ()), ("looks", {}, (), ()), ("looks", (), (), "")):
            self.assertRaises(BadPaper, judge, self.own.world, "own", value)


if __name__ == "__main__":
    unittest.main()
