"""Points 600 to 609."""

import unittest
from copy import deepcopy
from random import Random

from machines import Oracle, calls_of, run_code, run_tree, stack_of
from programs import BYTES, INT, NOTHING, PAY, Programs
from warycard.compiling import build
from warycard.core import is_core
from warycard.modules import is_module
from warycard.words import SIGNS, op

THIS, ONE, TWO, ZERO = ("slot", 0), ("int", 1), ("int", 2), ("int", 0)
X, Y, Z = ("slot", 1), ("slot", 2), ("slot", 3)
BACK = ("return", None)
F = ("face", "own", "F")
A = ("class", 0)


def core_of(body, result=NOTHING, params=(INT, INT, INT), variables=()):
    """Return a tree with a method m in the class 0, whose slots 1 to 3 are of the type int."""
    method = ("m", params, result, variables, body)
    return ("core", "own", 1, (("bank", 2),), (("F", (("f", (INT,), INT), ("g", (INT, INT), NOTHING))),), (
        ("A", -1, (), (INT, BYTES, A), (("m", params, result, 0, 0), ("h", (), NOTHING, 0, 1)),
         (method, ("h", (), NOTHING, (), ()))),), ())


def method_of(body, improve=False, **more):
    return build(core_of(body, **more), improve=improve)[6][0]


def code_of(*body, improve=False, **more):
    """Return the instructions of a body."""
    return method_of(body, improve, **more)[6]


def shifted(code, many):
    """Return instructions with the places of their jumps moved."""
    return tuple((row[0], row[1] + many) if row[0].startswith("jump") else row for row in code)


def expression(e):
    """Return the instructions of an expression alone."""
    code = code_of(("throw", e))
    assert code[-1] == ("throw",)
    return code[:-1]


def condition(e, wanted):
    """Return the instructions of a condition, with "to" in the place of the mark, and new marks behind it as "on"."""
    code = code_of(("if", e if wanted is False else ("not", e), (("begin",),), ()))
    assert code[-2:] == (("begin",), ("return",))
    code = code[:-2]
    names = {len(code) + 1: "to", len(code): "on"}
    return tuple((row[0], names.get(row[1], row[1])) if row[0].startswith("jump") else row for row in code)


def load(*slots):
    return tuple(("load", slot) for slot in slots)


class ModuleTest(unittest.TestCase):
    def test_parts(self):
        for seed in range(40):
            core = Programs(seed).core()
            before = deepcopy(core)
            for module in (build(core), build(core, improve=True), build(core, improve=False)):
                self.assertIs(is_module(module), True)
                self.assertEqual(module[:5], ("module",) + core[1:5])
                self.assertEqual(module[7], core[6])
                numbers = {}
                heads = []
                for k, row in enumerate(core[5]):
                    for place, method in enumerate(row[5]):
                        numbers[k, place] = len(heads)
                        heads.append((k,) + method[:4])
                self.assertEqual([method[:5] for method in module[6]], heads)
                for row, line in zip(core[5], module[5]):
                    self.assertEqual(line[:4], row[:4])
                    self.assertEqual(line[4], tuple(one[:3] + (numbers[one[3:]],) for one in row[4]))
            self.assertEqual(core, before)
            self.assertEqual(build(core), build(core, improve=True))

    def test_numbers_of_rows(self):
        made, quiet = ("made", (), NOTHING), ("a", (), NOTHING)
        core = ("core", "p", 1, (), (), (
            ("A", -1, (), (), (quiet + (0, 0), made + (0, 1)), (quiet + ((), ()), made + ((), ()))),
            ("B", -1, (), (), (), ()),
            ("C", 0, (), (), (quiet + (0, 0), made + (2, 1), ("z", (), NOTHING, 2, 0)), (("z", (), NOTHING, (), ()), made + ((), ()))),
        ), ())
        self.assertTrue(is_core(core, {}))
        module = build(core)
        self.assertEqual([[line[3] for line in row[4]] for row in module[5]], [[0, 1], [], [0, 3, 2]])
        self.assertEqual([method[:2] for method in module[6]], [(0, "a"), (0, "made"), (2, "z"), (2, "made")])
        for method in module[6]:
            self.assertEqual(method[5:], (0, (("return",),), ()))

    def test_example(self):
        body = (("while", ("op", "<", X, ("int", 3)), (("set", 1, ("op", "+", X, ONE)),)),)
        for improve in (True, False):
            method = method_of(body, improve, params=(INT,))
            self.assertEqual(method, (0, "m", (INT,), NOTHING, (), 2, (
                ("step",), ("load", 1), ("const", 3), ("op", "<"), ("jumpnot", 10), ("load", 1), ("const", 1), ("op", "+"),
                ("store", 1), ("jump", 0), ("return",)), ()))


class ExpressionTest(unittest.TestCase):
    def test_each_expression(self):
        self.assertEqual(expression(("int", 0)), (("const", 0),))
        self.assertEqual(expression(("int", 32767)), (("const", 32767),))
        self.assertEqual(expression(THIS), load(0))
        self.assertEqual(expression(X), load(1))
        for e in (("null",), ("buffer",), ("new", 0), ("seek", F, "a b"), ("seek", PAY, "x")):
            self.assertEqual(expression(e), (e,))
        self.assertEqual(expression(("get", ("get", THIS, 0, 2), 0, 1)), load(0) + (("get", 0, 2), ("get", 0, 1)))
        self.assertEqual(expression(("at", ("buffer",), X)), (("buffer",), ("load", 1), ("at",)))
        self.assertEqual(expression(("same", THIS, ("null",))), (("load", 0), ("null",), ("same",)))
        for word in ("size", "bytes", "temp", "neg", "not"):
            self.assertEqual(expression((word, X)), (("load", 1), (word,)))
        for sign in SIGNS:
            self.assertEqual(expression(("op", sign, X, ONE)), (("load", 1), ("const", 1), ("op", sign)))
        for word in ("is", "as"):
            for kind in (A, F, PAY):
                self.assertEqual(expression((word, THIS, kind)), (("load", 0), (word, kind)))
        self.assertEqual(expression(("callc", THIS, 0, 0, (X, ("neg", Y), Z))), load(0, 1, 2) + (("neg",), ("load", 3), ("callc", 0, 0)))
        self.assertEqual(expression(("callf", ("as", THIS, F), "own", "F", 0, (Y,))),
                         (("load", 0), ("as", F), ("load", 2), ("callf", "own", "F", 0)))
        self.assertEqual(expression(("callf", ("seek", PAY, "x"), "bank", "Pay", 1, ())),
                         (("seek", PAY, "x"), ("callf", "bank", "Pay", 1)))

    def test_values_of_conditions(self):
        self.assertEqual(expression(("and", X, Y)), (
            ("load", 1), ("jumpnot", 6), ("load", 2), ("jumpnot", 6), ("const", 1), ("jump", 7), ("const", 0)))
        self.assertEqual(expression(("or", X, Y)), (
            ("load", 1), ("jumpif", 4), ("load", 2), ("jumpnot", 6), ("const", 1), ("jump", 7), ("const", 0)))
        # A "not" that is no condition is an instruction.
        self.assertEqual(expression(("not", ("and", X, Y)))[-2:], (("const", 0), ("not",)))
        self.assertEqual(expression(("and", ("not", X), Y))[:2], (("load", 1), ("jumpif", 6)))
        self.assertEqual(expression(("op", "+", ("and", X, Y), Z))[-3:], (("const", 0), ("load", 3), ("op", "+")))

    def test_conditions(self):
        x, y, z = (("load", 1),), (("load", 2),), (("load", 3),)
        for e, falsely, truly in (
            (X, x + (("jumpnot", "to"),), x + (("jumpif", "to"),)),
            (("not", X), x + (("jumpif", "to"),), x + (("jumpnot", "to"),)),
            (("not", ("not", X)), x + (("jumpnot", "to"),), x + (("jumpif", "to"),)),
            (("and", X, Y), x + (("jumpnot", "to"),) + y + (("jumpnot", "to"),), x + (("jumpnot", "on"),) + y + (("jumpif", "to"),)),
            (("or", X, Y), x + (("jumpif", "on"),) + y + (("jumpnot", "to"),), x + (("jumpif", "to"),) + y + (("jumpif", "to"),)),
            (("not", ("and", X, Y)), x + (("jumpnot", "on"),) + y + (("jumpif", "to"),),
             x + (("jumpnot", "to"),) + y + (("jumpnot", "to"),)),
            (("and", X, ("or", Y, Z)), x + (("jumpnot", "to"),) + y + (("jumpif", "on"),) + z + (("jumpnot", "to"),),
             x + (("jumpnot", "on"),) + y + (("jumpif", "to"),) + z + (("jumpif", "to"),)),
            (("or", ("and", X, Y), Z), x + (("jumpnot", 4),) + y + (("jumpif", "on"),) + z + (("jumpnot", "to"),),
             x + (("jumpnot", 4),) + y + (("jumpif", "to"),) + z + (("jumpif", "to"),)),
            (("and", ("or", X, Y), Z), x + (("jumpif", 4),) + y + (("jumpnot", "to"),) + z + (("jumpnot", "to"),),
             x + (("jumpif", 4),) + y + (("jumpnot", "on"),) + z + (("jumpif", "to"),)),
            (ONE, (("const", 1), ("jumpnot", "to")), (("const", 1), ("jumpif", "to"))),
            (("and", ONE, ZERO), (("const", 1), ("jumpnot", "to"), ("const", 0), ("jumpnot", "to")),
             (("const", 1), ("jumpnot", "on"), ("const", 0), ("jumpif", "to"))),
        ):
            self.assertEqual(condition(e, False), falsely, e)
            self.assertEqual(condition(e, True), truly, e)


class StatementTest(unittest.TestCase):
    def test_each_statement(self):
        end = (("return",),)
        self.assertEqual(code_of(), end)
        self.assertEqual(code_of(("set", 1, Y)), (("load", 2), ("store", 1)) + end)
        self.assertEqual(code_of(("set", 1, X)), (("load", 1), ("store", 1)) + end)
        self.assertEqual(code_of(("put", THIS, 0, 0, X)), load(0, 1) + (("put", 0, 0),) + end)
        self.assertEqual(code_of(("store", ("buffer",), X, Y)), (("buffer",),) + load(1, 2) + (("setat",),) + end)
        for word in ("begin", "commit", "abort"):
            self.assertEqual(code_of((word,)), ((word,),) + end)
        self.assertEqual(code_of(("throw", X)), (("load", 1), ("throw",)))
        self.assertEqual(code_of(BACK), end)
        self.assertEqual(code_of(("return", X), result=INT), (("load", 1), ("returnv",)))
        self.assertEqual(code_of(("do", ("callc", THIS, 0, 0, (X, Y, Z)), NOTHING)), load(0, 1, 2, 3) + (("callc", 0, 0),) + end)
        self.assertEqual(code_of(("do", ("callc", THIS, 0, 0, (X, Y, Z)), INT), ("throw", X), result=INT),
                         load(0, 1, 2, 3) + (("callc", 0, 0), ("pop",)) + load(1) + (("throw",),))
        self.assertEqual(code_of(("do", ("callf", ("seek", PAY, "x"), "bank", "Pay", 0, (X,)), INT)),
                         (("seek", PAY, "x"), ("load", 1), ("callf", "bank", "Pay", 0), ("pop",)) + end)

    def test_if(self):
        begin, abort = ("begin",), ("abort",)
        ahead = (("load", 1),)
        for body, other, code in (
            ((), (), ahead + (("jumpnot", 2), ("return",))),
            ((begin,), (), ahead + (("jumpnot", 3), begin, ("return",))),
            ((), (abort,), ahead + (("jumpnot", 3), ("jump", 4), abort, ("return",))),
            ((begin,), (abort,), ahead + (("jumpnot", 4), begin, ("jump", 5), abort, ("return",))),
            ((BACK,), (), ahead + (("jumpnot", 3), ("return",), ("return",))),
            ((BACK,), (abort,), ahead + (("jumpnot", 3), ("return",), abort, ("return",))),
            ((begin,), (BACK,), ahead + (("jumpnot", 4), begin, ("jump", 5), ("return",), ("return",))),
            ((BACK,), (BACK,), ahead + (("jumpnot", 3), ("return",), ("return",))),
            ((("if", Y, (BACK,), (BACK,)),), (abort,), ahead + (
                ("jumpnot", 6), ("load", 2), ("jumpnot", 5), ("return",), ("return",), abort, ("return",))),
        ):
            self.assertEqual(code_of(("if", X, body, other)), code)
        # A second body without instructions is not empty.
        self.assertEqual(code_of(("if", X, (begin,), (("try", (), 4, (begin,)),)), variables=(INT,)),
                         ahead + (("jumpnot", 4), begin, ("jump", 4), ("return",)))

    def test_while(self):
        self.assertEqual(code_of(("while", X, ())), (("step",), ("load", 1), ("jumpnot", 4), ("jump", 0), ("return",)))
        self.assertEqual(code_of(("begin",), ("while", X, (("begin",),))), (
            ("begin",), ("step",), ("load", 1), ("jumpnot", 6), ("begin",), ("jump", 1), ("return",)))
        self.assertEqual(code_of(("while", X, (("throw", Y),))), (
            ("step",), ("load", 1), ("jumpnot", 5), ("load", 2), ("throw",), ("return",)))
        self.assertEqual(code_of(("while", ("or", X, Y), (("while", Z, ()),))), (
            ("step",), ("load", 1), ("jumpif", 5), ("load", 2), ("jumpnot", 10), ("step",), ("load", 3), ("jumpnot", 9),
            ("jump", 5), ("jump", 0), ("return",)))

    def test_try(self):
        def built(*body, many=1):
            return method_of(body, variables=(INT,) * many)[6:]
        begin, abort = ("begin",), ("abort",)
        self.assertEqual(built(("try", (begin,), 4, ())), ((begin, ("jump", 3), ("store", 4), ("return",)), ((0, 1, 2),)))
        self.assertEqual(built(("try", (begin,), 4, (abort,))), (
            (begin, ("jump", 4), ("store", 4), abort, ("return",)), ((0, 1, 2),)))
        self.assertEqual(built(("try", (BACK,), 4, (abort,))), ((("return",), ("store", 4), abort, ("return",)), ((0, 1, 1),)))
        self.assertEqual(built(("try", (BACK,), 4, (BACK,))), ((("return",), ("store", 4), ("return",)), ((0, 1, 1),)))
        self.assertEqual(built(abort, ("try", (begin,), 4, (BACK,))), (
            (abort, begin, ("jump", 5), ("store", 4), ("return",), ("return",)), ((1, 2, 3),)))
        # A try without instructions in its first body has none at all.
        self.assertEqual(built(("try", (), 4, (begin,))), ((("return",),), ()))
        self.assertEqual(built(("try", (("try", (), 4, (begin,)),), 5, (abort,)), begin, many=2), ((begin, ("return",)), ()))
        self.assertEqual(built(("try", (("try", (), 4, (abort,)), begin), 5, (abort,)), many=2), (
            (begin, ("jump", 4), ("store", 5), abort, ("return",)), ((0, 1, 2),)))

    def test_nested_tries(self):
        begin, abort, commit = ("begin",), ("abort",), ("commit",)
        code, handlers = method_of((("try", (("try", (begin,), 4, (abort,)), commit), 5, (("try", (begin,), 6, ()),)),),
                                   variables=(INT,) * 3)[6:]
        self.assertEqual(code, (begin, ("jump", 4), ("store", 4), abort, commit, ("jump", 10), ("store", 5), begin, ("jump", 10),
                                ("store", 6), ("return",)))
        self.assertEqual(handlers, ((0, 1, 2), (0, 5, 6), (7, 8, 9)))
        # The handlers stand in the order in which the tried bodies end, also if the handled bodies have tries.
        _, handlers = method_of((("try", (begin,), 4, (("try", (begin,), 5, ()),)), ("try", (begin,), 6, ())),
                                variables=(INT,) * 3)[6:]
        self.assertEqual(handlers, ((0, 1, 2), (3, 4, 5), (6, 7, 8)))

    def test_stack_of_each_instruction(self):
        # What is ahead of the instruction is not higher than what is behind it, or the other way round.
        for e, height in ((("null",), 1), (("buffer",), 1), (("new", 0), 1), (("seek", F, "x"), 1)):
            self.assertEqual(method_of((("set", 1, ("same", e, e)),))[5], height + 1)
            self.assertEqual(method_of((("set", 1, ("is", e, A)),) if e != ("buffer",) else (("set", 1, ("size", e)),))[5], height)
        for e in (("neg", X), ("not", X), ("get", THIS, 0, 0), ("size", ("buffer",)), ("size", ("bytes", X)), ("size", ("temp", X)),
                  ("is", THIS, A), ("is", ("as", THIS, F), A)):
            self.assertEqual(method_of((("throw", e),))[5], 1)
            self.assertEqual(method_of((("throw", ("op", "+", e, e)),))[5], 2)
        for word in ("begin", "commit", "abort"):
            self.assertEqual(method_of(((word,), (word,)))[5], 0)

    def test_stack(self):
        for body, height in (((), 0), ((("set", 1, Y),), 1), ((("throw", ("op", "+", X, ("op", "+", Y, Z))),), 3),
                             ((("store", ("buffer",), X, ("op", "+", Y, Z)),), 4), ((("put", THIS, 0, 0, X),), 2),
                             ((("throw", ("callc", THIS, 0, 0, (X, Y, Z))),), 4), ((("throw", ("and", X, Y)),), 1),
                             ((("do", ("callc", THIS, 0, 1, ()), NOTHING), ("begin",)), 1), ((("begin",),), 0),
                             ((("throw", ("callf", ("seek", F, "x"), "own", "F", 0, (("op", "+", X, Y),))),), 3),
                             ((("do", ("callf", ("seek", F, "x"), "own", "F", 1, (X, Y)), NOTHING), ("set", 1, X)), 3),
                             ((("try", (("begin",),), 4, ()),), 1), ((("try", (), 4, (("begin",),)),), 0),
                             ((("while", X, (("set", 1, ("op", "-", X, ONE)),)),), 2)):
            for improve in (False, True):
                variables = (INT,) if body and body[0][0] == "try" else ()
                self.assertEqual(method_of(body, improve, variables=variables)[5], height, body)
        # What cannot be reached does not count.
        deep = ("op", "+", X, ("op", "+", Y, ("op", "+", Z, X)))
        body = (("while", ONE, ()), ("throw", deep))
        self.assertEqual([method_of(body, improve)[5] for improve in (False, True)], [4, 0])


class ImprovementTest(unittest.TestCase):
    def better(self, *body, **more):
        return code_of(*body, improve=True, **more)

    def test_jumps(self):
        # No jump to a jump, and none to the place behind it.
        self.assertEqual(self.better(("while", X, (("if", Y, (("begin",),), (("abort",),)),))), (
            ("step",), ("load", 1), ("jumpnot", 9), ("load", 2), ("jumpnot", 7), ("begin",), ("jump", 0), ("abort",),
            ("jump", 0), ("return",)))
        self.assertEqual(self.better(("while", X, (("if", Y, (("begin",),), ()),))), (
            ("step",), ("load", 1), ("jumpnot", 7), ("load", 2), ("jumpnot", 0), ("begin",), ("jump", 0), ("return",)))
        self.assertEqual(self.better(("if", X, (), ())), (("load", 1), ("pop",), ("return",)))
        self.assertEqual(self.better(("if", ("not", X), (), ())), (("load", 1), ("pop",), ("return",)))
        # No jump to a return.
        self.assertEqual(self.better(("if", X, (("begin",),), (("abort",),))), (
            ("load", 1), ("jumpnot", 4), ("begin",), ("return",), ("abort",), ("return",)))
        self.assertEqual(self.better(("return", ("and", X, Y)), result=INT), (
            ("load", 1), ("jumpnot", 6), ("load", 2), ("jumpnot", 6), ("const", 1), ("returnv",), ("const", 0), ("returnv",)))

    def test_constants(self):
        for e, worth in ((("neg", ONE), -1), (("neg", ("neg", ONE)), 1), (("not", ZERO), 1), (("not", TWO), 0),
                         (("op", "+", ("int", 32767), ONE), -32768), (("op", "*", ("neg", TWO), ("int", 3)), -6),
                         (("op", "/", ("int", 7), TWO), 3), (("op", "mod", ("neg", ("int", 7)), TWO), -1),
                         (("and", ZERO, ("op", "/", ONE, ZERO)), 0), (("or", TWO, ("op", "/", ONE, ZERO)), 1),
                         (("and", ONE, TWO), 1), (("and", TWO, ZERO), 0), (("or", ZERO, ("int", 5)), 1), (("or", ZERO, ZERO), 0),
                         (("op", "<", ("and", ONE, TWO), ("not", ONE)), 0), (("op", "-", ("or", ZERO, ONE), TWO), -1)):
            self.assertEqual(self.better(("return", e), result=INT), (("const", worth), ("returnv",)), e)
        divided = ("op", "/", ONE, ZERO)
        for sign in ("/", "mod"):
            self.assertEqual(self.better(("throw", ("op", sign, ONE, ZERO))), (("const", 1), ("const", 0), ("op", sign), ("throw",)))
            self.assertEqual(self.better(("if", ("op", sign, ONE, ZERO), (), ())),
                             (("const", 1), ("const", 0), ("op", sign), ("pop",), ("return",)))
        self.assertEqual(self.better(("throw", ("op", "+", divided, ONE)))[:3], (("const", 1), ("const", 0), ("op", "/")))

    def test_constants_beside_others(self):
        for sign in ("+", "-", "|", "^", "<<", ">>"):
            self.assertEqual(self.better(("throw", ("op", sign, X, ZERO))), (("load", 1), ("throw",)))
            self.assertEqual(self.better(("throw", ("op", sign, X, ONE))), (("load", 1), ("const", 1), ("op", sign), ("throw",)))
        for sign in ("*", "/"):
            self.assertEqual(self.better(("throw", ("op", sign, X, ONE))), (("load", 1), ("throw",)))
            self.assertEqual(self.better(("throw", ("op", sign, X, TWO))), (("load", 1), ("const", 2), ("op", sign), ("throw",)))
            self.assertEqual(self.better(("throw", ("op", sign, X, ZERO))), (("load", 1), ("const", 0), ("op", sign), ("throw",)))
        for sign in ("mod", "&", "!=", "<", "<=", ">", ">="):
            for n in (ZERO, ONE):
                self.assertEqual(self.better(("throw", ("op", sign, X, n)))[1:3], (("const", n[1]), ("op", sign)))
        self.assertEqual(self.better(("throw", ("op", "==", X, ZERO))), (("load", 1), ("not",), ("throw",)))
        self.assertEqual(self.better(("throw", ("op", "==", X, ONE))), (("load", 1), ("const", 1), ("op", "=="), ("throw",)))
        self.assertEqual(self.better(("if", ("op", "==", X, ZERO), (("begin",),), ())), (
            ("load", 1), ("jumpif", 3), ("begin",), ("return",)))
        # The constant on the left stays.
        for sign in SIGNS:
            self.assertEqual(self.better(("throw", ("op", sign, ZERO, X))), (("const", 0), ("load", 1), ("op", sign), ("throw",)))

    def test_marked_constants(self):
        # The second constant is the place of a jump, so two constants cannot become one.
        e = ("op", "<", ONE, ("and", X, Y))
        code = self.better(("throw", e))
        self.assertEqual(code[-3:], (("const", 0), ("op", "<"), ("throw",)))
        # The mark of a constant that goes is that of what comes behind it.
        code = self.better(("throw", ("op", "+", ("and", X, Y), ZERO)))
        self.assertEqual(code, self.better(("throw", ("and", X, Y))))

    def test_store_and_pop(self):
        self.assertEqual(self.better(("set", 1, X)), (("return",),))
        self.assertEqual(self.better(("set", 1, Y)), (("load", 2), ("store", 1), ("return",)))
        self.assertEqual(self.better(("if", ONE, (), ())), (("return",),))
        self.assertEqual(self.better(("try", (("set", 1, X),), 4, (("begin",),)), ("abort",), variables=(INT,)),
                         (("abort",), ("return",)))
        method = method_of((("try", (("set", 1, X), ("begin",), ("set", 2, Y)), 4, (("abort",),)), ("commit",)), True,
                           variables=(INT,))
        self.assertEqual(method[6:], ((("begin",), ("jump", 4), ("store", 4), ("abort",), ("commit",), ("return",)), ((0, 1, 2),)))

    def test_first_if_and_while(self):
        bodies = ((), (("begin",),), (("set", 1, Y), ("if", X, (("begin",),), (("abort",),))), (BACK,), (("throw", X),),
                  (("while", X, (("begin",),)),), (("if", Y, (BACK,), (("throw", ONE),)),),
                  (("try", (("begin",),), 4, (("abort",),)),), (("while", ONE, (("begin",),)),), (("if", X, (("begin",),), ()),),
                  (("if", ONE, (("begin",),), ()),), (("while", ZERO, (BACK,)),), (("while", TWO, (BACK,)),))
        tests = ((ONE, 1), (ZERO, 0), (("neg", ONE), -1), (("not", ZERO), 1), (("op", "-", ONE, ONE), 0), (("and", TWO, ONE), 1),
                 (("and", ZERO, ("op", "/", ONE, ZERO)), 0), (("or", ONE, ("op", "mod", ONE, ZERO)), 1), (("and", ONE, ZERO), 0),
                 (("or", ZERO, TWO), 1), (("or", ZERO, ZERO), 0), (("op", "+", ONE, ONE), 2),
                 (("not", ("neg", ("op", "-", ONE, ONE))), 1), (("and", ("op", "+", ONE, ONE), ("not", ZERO)), 1))
        more = {"variables": (INT,)}
        for e, worth in tests:
            for rest in ((), (("commit",),), (BACK,)):
                for body in bodies:
                    for other in ((), (("abort",),), (BACK,)):
                        taken = body if worth else other
                        wanted = self.better(*taken, *(() if self.stops(taken) else rest), **more)
                        if not (self.stops(body) and self.stops(other) and rest):
                            self.assertEqual(self.better(("if", e, body, other), *rest, **more), wanted)
                    if self.stops(body):
                        taken = body if worth else rest
                        self.assertEqual(self.better(("while", e, body), *rest, **more),
                                         (("step",),) + shifted(self.better(*taken, **more), 1))

    def stops(self, body):
        return bool(body) and (body[-1][0] in ("return", "throw") or body[-1][0] == "if" and all(
            self.stops(part) for part in body[-1][2:]))

    def test_nothing_that_cannot_be_reached(self):
        self.assertEqual(self.better(("while", ONE, (("begin",),)), ("abort",)), (("step",), ("begin",), ("jump", 0)))
        self.assertEqual(self.better(("while", ("or", X, ONE), ()), ("abort",)),
                         (("step",), ("load", 1), ("jumpif", 0), ("jump", 0)))
        method = method_of((("try", (("while", ONE, ()),), 4, (("abort",),)), ("begin",)), True, variables=(INT,))
        self.assertEqual(method[6:], ((("step",), ("jump", 0), ("store", 4), ("abort",), ("begin",), ("return",)), ((0, 2, 2),)))

    def reached(self, code, handlers):
        found, waiting = set(), [0]
        while waiting:
            place = waiting.pop()
            if place not in found:
                found.add(place)
                if code[place][0] not in ("jump", "return", "returnv", "throw"):
                    waiting.append(place + 1)
                if code[place][0].startswith("jump"):
                    waiting.append(code[place][1])
                waiting.extend(at for first, last, at in handlers if first <= place < last)
        return found

    def ask_points(self, code, handlers):
        self.assertEqual(self.reached(code, handlers), set(range(len(code))))
        marked = {row[1] for row in code if row[0].startswith("jump")} | {place for row in handlers for place in row}
        for place, row in enumerate(code):
            word = row[0]
            if word.startswith("jump"):
                self.assertNotEqual(code[row[1]][0], "jump")
                self.assertNotEqual(row[1], place + 1)
                self.assertFalse(word == "jump" and code[row[1]][0] in ("return", "returnv"))
                self.assertTrue(row[1] > place or code[row[1]] == ("step",))
            if place == 0 or place in marked:
                continue
            ahead = code[place - 1]
            if word in ("neg", "not", "jumpif", "jumpnot", "pop"):
                self.assertNotEqual(ahead[0], "const")
            if word in ("jumpif", "jumpnot"):
                self.assertNotEqual(ahead[0], "not")
            if word == "store":
                self.assertNotEqual(ahead, ("load", row[1]))
            if word == "op":
                self.assertFalse(ahead == ("const", 0) and row[1] in ("+", "-", "|", "^", "<<", ">>", "=="))
                self.assertFalse(ahead == ("const", 1) and row[1] in ("*", "/"))
                if ahead[0] == "const" and place - 1 not in marked and place > 1 and code[place - 2][0] == "const":
                    self.assertIsNone(op(row[1], code[place - 2][1], ahead[1]))
        for first, last, at in handlers:
            self.assertLess(first, last)
            self.assertLessEqual(last, at)

    def test_points_of_any_methods(self):
        for seed in range(150):
            core = Programs(seed).core(room=8)
            for plain, better in zip(build(core, improve=False)[6], build(core)[6]):
                self.ask_points(*better[6:])
                self.assertLessEqual(len(better[6]), len(plain[6]))
                self.assertEqual(better[:5], plain[:5])

    def test_all_run_alike(self):
        for seed in range(60):
            core = Programs(seed).core(room=8)
            trees = [method for row in core[5] for method in row[5]]
            for tree, plain, better in zip(trees, build(core, improve=False)[6], build(core)[6]):
                calls = {}
                calls_of(tree[4], calls)
                self.assertEqual([method[5] for method in (plain, better)], [stack_of(method, calls) for method in (plain, better)])
                for round_ in range(3):
                    chance = Random(seed * 10 + round_)
                    slots = [chance.choice((0, 1, 2, 5, -1)) for _ in range(1 + len(tree[1]) + len(tree[3]))]
                    found = []
                    for run in (lambda oracle: run_tree(tree[4], list(slots), oracle),
                                lambda oracle: run_code(plain, list(slots), oracle, calls),
                                lambda oracle: run_code(better, list(slots), oracle, calls)):
                        oracle = Oracle(seed + round_, (0, 0.1, 0.3)[round_])
                        found.append((run(oracle), oracle.asked))
                    self.assertEqual(found[0], found[1])
                    self.assertEqual(found[0], found[2])


if __name__ == "__main__":
    unittest.main()
