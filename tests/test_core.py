"""Points 300 to 311, and 313."""

import unittest
from copy import deepcopy

from programs import ASK, BYTES, FAR, INT, NOTHING, PAY, USED, Programs
from values import ANY
from warycard.checking import check
from warycard.core import is_core
from warycard.naming import source
from warycard.words import SIGNS

A, B, D = ("class", 0), ("class", 1), ("class", 2)
F, G = ("face", "own", "F"), ("face", "own", "G")
GO = ("go", (INT,), INT)
THIS, NULL, BUFFER, ONE = ("slot", 0), ("null",), ("buffer",), ("int", 1)
FIELDS = (INT, BYTES, A, B, F, PAY)
BACK = ("return", ONE)
# Values of each type, for a method of the class A.
OF_A, OF_B, OF_D, OF_F = ("new", 0), ("new", 1), ("new", 2), ("as", THIS, F)
OF_PAY, OF_FAR = ("seek", PAY, "x"), ("callf", ("seek", PAY, "x"), "bank", "Pay", 1, ())
SAMPLES = {INT: ONE, BYTES: BUFFER, A: OF_A, B: OF_B, D: OF_D, F: OF_F, G: ("seek", G, "x"), PAY: OF_PAY, FAR: OF_FAR}
FITTING = {INT: (INT,), BYTES: (BYTES,), A: (A, B), B: (B,), D: (D,), F: (F, A, B), G: (G, B), PAY: (PAY,), FAR: (FAR,)}


def nest(k, value):
    for _ in range(k):
        value = ("not", value)
    return value


def program(params=(), result=NOTHING, variables=(), body=(), fields=FIELDS):
    """Return a tree with one free method, in the class 0."""
    method = ("m", params, result, variables, body)
    go = ("go", (INT,), INT, (), (BACK,))
    empty = ("n", (A, F), NOTHING, (), ())
    table = (GO + (0, 0), ("m", params, result, 0, 1), ("n", (A, F), NOTHING, 0, 2))
    return ("core", "own", 1, (("bank", 2),), (("F", (GO,)), ("G", ())), (
        ("A", -1, (F,), fields, table, (go, method, empty)),
        ("B", 0, (G,), fields + (INT,), (GO + (1, 0),) + table[1:] + (("p", (), INT, 1, 1),),
         (go, ("p", (), INT, (), (BACK,)))),
        ("D", -1, (), (D,), (), ()),
    ), ())


def tree(name="own", version=1, uses=(), faces=(), classes=(), applets=()):
    return ("core", name, version, uses, faces, classes, applets)


def row(name, parent=-1, faces=(), fields=(), table=(), methods=()):
    return (name, parent, faces, fields, table, methods)


def holder(*heads, k=0, above=()):
    """Return the table and the methods of a class that defines methods with some heads."""
    methods = tuple(head + ((), () if head[2] == NOTHING else (("throw", ONE),)) for head in heads)
    return above + tuple(head + (k, place) for place, head in enumerate(heads)), methods


class Case(unittest.TestCase):
    def right(self, value, used=USED):
        self.assertIs(is_core(value, used), True, value)

    def wrong(self, value, used=USED):
        self.assertIs(is_core(value, used), False, value)

    def body(self, holds, *body, **more):
        value = program(body=body, **more)
        self.assertIs(is_core(value, USED), holds, body)

    def value(self, holds, e):
        """Ask whether an expression may stand where any type but int, or int, may stand."""
        bodies = (("set", 1, ("same", e, NULL)), ("set", 1, e))
        found = [is_core(program(variables=(INT,), body=(one,)), USED) for one in bodies]
        self.assertIs(any(found), holds, e)


class StatementTest(Case):
    def test_fitting_in_each_place(self):
        for kind, fits in FITTING.items():
            for one, sample in SAMPLES.items():
                holds = one in fits
                if kind != FAR:
                    self.body(holds, ("set", 1, sample), variables=(kind,))
                    self.body(holds, ("set", 1, sample), params=(kind,))
                    self.body(holds, ("return", sample), result=kind)
                    put = ("put", THIS, 0, 0, sample)
                    self.right(program(fields=(kind,)))
                    self.assertIs(is_core(program(fields=(kind,), body=(put,)), USED), holds, (kind, one))
            if kind != FAR:
                null = kind != INT
                self.body(null, ("set", 1, NULL), variables=(kind,))
                self.body(null, ("return", NULL), result=kind)
                self.body(null, ("put", THIS, 0, 0, NULL), fields=(kind,))

    def test_fitting_in_arguments(self):
        for kind, fits in FITTING.items():
            if kind == FAR:
                continue
            heads = (("h", (kind, INT), INT),)
            for one, sample in list(SAMPLES.items()) + [(None, NULL)]:
                call = ("callc", THIS, 0, 1, (sample, ONE))
                holds = one in fits or one is None and kind != INT
                self.body(holds, ("do", call, NOTHING), params=(kind, INT))
                used = dict(USED, bank=(2, (("Pay", heads + USED["bank"][1][0][1]),)))
                call = ("callf", OF_PAY, "bank", "Pay", 0, (sample, ONE))
                value = program(body=(("do", call, INT),))
                if one != FAR:
                    self.assertIs(is_core(value, used), holds, (kind, one))

    def test_unknown_face(self):
        give = ("callf", OF_PAY, "bank", "Pay", 2, (OF_FAR, ONE))
        self.body(True, ("do", give, NOTHING))
        self.body(True, ("do", ("callf", OF_PAY, "bank", "Pay", 2, (NULL, ONE)), NOTHING))
        self.body(False, ("do", ("callf", OF_PAY, "bank", "Pay", 2, (OF_PAY, ONE)), NOTHING))
        self.body(False, ("do", ("callf", OF_PAY, "bank", "Pay", 2, (THIS, ONE)), NOTHING))
        self.body(True, ("do", OF_FAR, FAR))
        self.body(False, ("do", OF_FAR, PAY))
        self.body(False, ("do", ("callf", OF_FAR, "far", "Q", 0, ()), INT))
        self.body(True, ("throw", ("same", OF_FAR, THIS)))
        self.body(True, ("throw", ("is", OF_FAR, F)))
        self.body(False, ("throw", ("is", THIS, FAR)))
        self.body(True, ("do", ("callc", ("as", OF_FAR, A), 0, 1, ()), NOTHING))
        self.body(False, ("set", 1, NULL), variables=(FAR,))
        self.wrong(program(params=(FAR,)))
        self.wrong(program(result=FAR, body=(("return", OF_FAR),)))
        self.wrong(program(fields=(FAR,)))
        self.body(False, ("set", 1, OF_FAR), variables=(PAY,))

    def test_put(self):
        for place, kind in enumerate(FIELDS):
            self.body(True, ("put", THIS, 0, place, SAMPLES[kind]))
            self.body(True, ("put", OF_B, 1, place, SAMPLES[kind]))
        self.body(True, ("put", OF_B, 1, 6, ONE))
        self.body(False, ("put", THIS, 0, 6, ONE))
        self.body(False, ("put", OF_B, 1, 7, ONE))
        self.body(False, ("put", OF_B, 0, 0, ONE))
        self.body(False, ("put", OF_A, 1, 0, ONE))
        self.body(False, ("put", OF_A, 1, 6, ONE))
        self.body(False, ("put", NULL, 0, 0, ONE))
        self.body(False, ("put", OF_F, 0, 0, ONE))
        self.body(False, ("put", BUFFER, 0, 0, ONE))
        self.body(False, ("put", ONE, 0, 0, ONE))
        self.body(False, ("put", THIS, 0, -1, ONE))
        self.body(False, ("put", THIS, 9, 0, ONE))
        self.body(False, ("put", THIS, 0, 0, ("callc", THIS, 0, 2, (THIS, THIS))))

    def test_store(self):
        for target in (BUFFER, NULL, ("bytes", ONE), ("temp", ONE), ("get", THIS, 0, 1)):
            self.body(True, ("store", target, ONE, ONE))
            for other in (BUFFER, NULL, THIS):
                self.body(False, ("store", target, other, ONE))
                self.body(False, ("store", target, ONE, other))
        for target in (ONE, THIS, OF_F, OF_FAR):
            self.body(False, ("store", target, ONE, ONE))

    def test_integers(self):
        for e in (BUFFER, NULL, THIS, OF_F, OF_PAY, OF_FAR, ("callc", THIS, 0, 2, (THIS, THIS))):
            self.body(False, ("if", e, (), ()))
            self.body(False, ("while", e, ()))
            self.body(False, ("throw", e))
        self.body(True, ("if", ONE, (), ()), ("while", ONE, ()), ("throw", ONE))

    def test_return(self):
        self.body(True, ("return", None))
        self.body(False, ("return", None), result=INT)
        self.body(False, ("return", ONE))
        self.body(False, ("return", NULL))
        self.body(True, BACK, result=INT)
        self.body(False, ("return", ("callc", THIS, 0, 2, (THIS, THIS))))
        self.body(False, ("return", ("callc", THIS, 0, 2, (THIS, THIS))), result=INT)

    def test_do(self):
        go = ("callc", THIS, 0, 0, (ONE,))
        self.body(True, ("do", go, INT))
        self.body(True, ("do", ("callf", OF_F, "own", "F", 0, (ONE,)), INT))
        self.body(True, ("do", ("callc", THIS, 0, 2, (THIS, THIS)), NOTHING))
        for result in (NOTHING, BYTES, A, F, ("null",), ("int", 1), (), None, "int", ["int"], ("Int",), INT + INT):
            self.body(False, ("do", go, result))
        for result in (INT, None, BYTES, ("null",)):
            self.body(False, ("do", ("callc", THIS, 0, 2, (THIS, THIS)), result))
        for e in (ONE, THIS, OF_A, ("not", go), ("as", go, A)):
            self.body(False, ("do", e, INT))

    def test_call_without_result(self):
        quiet = ("callc", THIS, 0, 2, (THIS, THIS))
        silent = ("callf", OF_PAY, "bank", "Pay", 2, (NULL, ONE))
        for e in (quiet, silent):
            self.body(True, ("do", e, NOTHING))
            for body in (("throw", e), ("set", 1, e), ("do", ("callc", THIS, 0, 0, (e,)), INT), ("throw", ("same", e, e)),
                         ("throw", ("same", e, NULL)), ("throw", ("is", e, A)), ("throw", ("not", e)),
                         ("store", e, ONE, ONE), ("put", THIS, 0, 2, e), ("throw", ("size", e))):
                self.body(False, body, variables=(A,) if body[0] == "set" else ())

    def test_singles(self):
        self.body(True, ("begin",), ("commit",), ("abort",))
        self.body(False, ("begin", 1))
        self.body(False, ("stop",))
        self.body(False, ("var", INT, "x", ONE))


class ExpressionTest(Case):
    def test_numbers(self):
        for n in (0, 1, 255, 32767):
            self.value(True, ("int", n))
        for n in (-1, 32768, True, False, None, 1.0, "1", (1,), 10 ** 40):
            self.value(False, ("int", n))

    def test_leaves(self):
        for e in (NULL, BUFFER, THIS, OF_A, OF_B, OF_D, ("seek", F, "x"), ("seek", PAY, "a b")):
            self.value(True, e)
        for e in (("null", 1), ("this",), ("name", "v1"), ("new", 3), ("new", -1), ("new", True), ("new", "A"),
                  ("slot", 1), ("slot", 2), ("slot", -1), ("slot", False), ("slot", "v1"), ("buffer", 0)):
            self.value(False, e)

    def test_seek(self):
        for kind in (F, G, PAY, ASK):
            self.value(True, ("seek", kind, "x"))
        for kind in (A, INT, BYTES, FAR, ("face", "own", "H"), ("null",), NOTHING, "F", ["face", "own", "F"], (), None):
            self.value(False, ("seek", kind, "x"))
        for text in ("", "a" * 17, 'a"', "\n", "a" + chr(37), None, 1, b"a", ("a",)):
            self.value(False, ("seek", F, text))
        self.value(True, ("seek", F, "a" * 16))

    def test_get(self):
        for place, kind in enumerate(FIELDS):
            self.value(True, ("get", THIS, 0, place))
            self.body(True, ("set", 1, ("get", OF_B, 1, place)), variables=(kind,))
        self.body(True, ("throw", ("get", OF_B, 1, 6)))
        for e in (("get", THIS, 0, 6), ("get", THIS, 0, -1), ("get", THIS, 1, 0), ("get", OF_B, 0, 0), ("get", NULL, 0, 0),
                  ("get", OF_F, 0, 0), ("get", BUFFER, 0, 0), ("get", ONE, 0, 0), ("get", THIS, False, 0),
                  ("get", THIS, 0, True), ("get", THIS, 0, "n"), ("get", THIS, 3, 0)):
            self.value(False, e)

    def test_bytes(self):
        for e in (BUFFER, NULL, ("bytes", ONE), ("temp", ONE)):
            self.value(True, ("at", e, ONE))
            self.value(True, ("size", e))
            self.value(False, ("at", e, BUFFER))
            self.value(False, ("bytes", e))
            self.value(False, ("temp", e))
        for e in (ONE, THIS, OF_F, OF_PAY):
            self.value(False, ("at", e, ONE))
            self.value(False, ("size", e))

    def test_operations(self):
        others = (NULL, BUFFER, THIS, OF_F)
        for word in ("neg", "not"):
            self.value(True, (word, ONE))
            for e in others:
                self.value(False, (word, e))
        for word in ("and", "or"):
            self.value(True, (word, ONE, ONE))
            for e in others:
                self.value(False, (word, ONE, e))
                self.value(False, (word, e, ONE))
        for sign in SIGNS:
            self.value(True, ("op", sign, ONE, ONE))
            for e in others:
                self.value(False, ("op", sign, e, e))
                self.value(False, ("op", sign, ONE, e))
                self.value(False, ("op", sign, e, ONE))
        for sign in ("", "=", "!", "and", "not", None, 1, ("+",), ["+"], "+ "):
            self.value(False, ("op", sign, ONE, ONE))

    def test_same(self):
        objects = (THIS, OF_D, OF_F, OF_PAY, OF_FAR)
        for one in objects:
            self.value(True, ("same", one, NULL))
            self.value(True, ("same", NULL, one))
            for other in objects:
                self.value(True, ("same", one, other))
            for other in (BUFFER, ONE):
                self.value(False, ("same", one, other))
                self.value(False, ("same", other, one))
        self.value(True, ("same", NULL, NULL))
        self.value(True, ("same", BUFFER, ("bytes", ONE)))
        self.value(True, ("same", BUFFER, NULL))
        self.value(True, ("same", NULL, BUFFER))
        for one, other in ((ONE, ONE), (ONE, NULL), (NULL, ONE), (ONE, BUFFER), (BUFFER, ONE)):
            self.value(False, ("same", one, other))

    def test_is_and_as(self):
        for word in ("is", "as"):
            for e in (THIS, OF_D, OF_F, OF_PAY, OF_FAR, NULL):
                for kind in (A, B, D, F, G, PAY, ASK):
                    self.value(True, (word, e, kind))
                for kind in (INT, BYTES, FAR, NULL, NOTHING, ("class", 3), ("class", True), ("class", 0.0), "A", 0, None,
                             (), ("face", "bank", "Q"), ["class", 0]):
                    self.value(False, (word, e, kind))
            for e in (ONE, BUFFER):
                for kind in (A, F):
                    self.value(False, (word, e, kind))
        self.body(True, ("throw", ("is", THIS, A)))
        self.body(False, ("set", 1, ("is", THIS, A)), variables=(A,))
        self.body(True, ("set", 1, ("as", THIS, D)), variables=(D,))
        self.body(False, ("throw", ("as", THIS, A)))

    def test_callc(self):
        self.value(True, ("callc", THIS, 0, 0, (ONE,)))
        self.value(True, ("callc", OF_B, 1, 3, ()))
        self.value(True, ("callc", OF_B, 1, 0, (ONE,)))
        for e in (("callc", THIS, 0, 3, ()), ("callc", THIS, 1, 3, ()), ("callc", OF_B, 0, 0, (ONE,)),
                  ("callc", OF_F, 0, 0, (ONE,)), ("callc", NULL, 0, 0, (ONE,)), ("callc", BUFFER, 0, 0, (ONE,)),
                  ("callc", THIS, 0, 0, ()), ("callc", THIS, 0, 0, (ONE, ONE)), ("callc", THIS, 0, 0, (NULL,)),
                  ("callc", THIS, 0, 0, [ONE]), ("callc", THIS, 0, 0, ONE), ("callc", OF_D, 2, 0, ()),
                  ("callc", THIS, 0, "go", (ONE,)), ("callc", THIS, False, 0, (ONE,)), ("callc", THIS, 0, False, (ONE,)),
                  ("callc", THIS, 0, 0, None), ("callc", THIS, 0, -1, (THIS, OF_F))):
            self.value(False, e)

    def test_callf(self):
        self.value(True, ("callf", OF_F, "own", "F", 0, (ONE,)))
        self.value(True, ("callf", OF_PAY, "bank", "Pay", 0, (ONE,)))
        for e in (("callf", THIS, "own", "F", 0, (ONE,)), ("callf", NULL, "own", "F", 0, (ONE,)),
                  ("callf", OF_F, "own", "F", 1, (ONE,)), ("callf", OF_F, "own", "F", -1, (ONE,)),
                  ("callf", OF_F, "own", "G", 0, (ONE,)), ("callf", OF_F, "bank", "F", 0, (ONE,)),
                  ("callf", OF_F, "own", "F", 0, ()), ("callf", OF_F, "own", "F", 0, (ONE, ONE)),
                  ("callf", OF_F, "own", "F", 0, (NULL,)), ("callf", OF_F, "own", "F", False, (ONE,)),
                  ("callf", OF_F, None, "F", 0, (ONE,)), ("callf", OF_F, ["own"], "F", 0, (ONE,)),
                  ("callf", OF_F, "own", ("F",), 0, (ONE,)), ("callf", OF_PAY, "bank", "Pay", 4, ()),
                  ("callf", OF_PAY, "bank", "Ask", 1, ()), ("callf", BUFFER, "own", "F", 0, (ONE,))):
            self.value(False, e)


class SlotTest(Case):
    def test_this_and_params(self):
        self.body(True, ("throw", ("slot", 1)), params=(INT, A))
        self.body(True, ("set", 1, ("slot", 1)), ("set", 2, THIS), params=(INT, A))
        self.body(False, ("throw", ("slot", 2)), params=(INT, A))
        self.body(False, ("throw", ("slot", 3)), params=(INT, A))
        self.body(False, ("set", 0, THIS))
        self.body(False, ("set", 0, NULL), params=(INT,))
        self.body(False, ("set", 3, ONE), params=(INT, A))

    def test_variables(self):
        self.body(True, ("set", 1, ONE), ("set", 1, ("slot", 1)), ("throw", ("slot", 1)), variables=(INT,))
        self.body(True, ("set", 1, ONE), ("set", 2, ("slot", 1)), variables=(INT, INT))
        self.body(False, ("set", 1, ("slot", 1)), variables=(INT,))
        self.body(False, ("set", 2, ONE), ("set", 1, ONE), variables=(INT, INT))
        self.body(False, ("set", 2, ONE), variables=(INT, INT))
        self.body(False, ("set", 1, ONE), ("set", 3, ONE), variables=(INT, INT))
        self.body(False, ("set", 1, ONE), ("set", 2, ONE), variables=(INT,))
        self.body(False, variables=(INT,))
        self.body(False, ("set", 1, ONE), variables=(INT, INT))
        self.body(False, ("set", 1, ONE))
        self.body(False, ("set", True, ONE), variables=(INT,))

    def test_closed(self):
        inner = ("set", 1, ONE)
        for around in (lambda body: ("if", ONE, body, ()), lambda body: ("if", ONE, (), body),
                       lambda body: ("while", ONE, body), ):
            self.body(True, around((inner, ("set", 1, ONE))), variables=(INT,))
            self.body(False, around((inner,)), ("set", 1, ONE), variables=(INT,))
            self.body(False, around((inner,)), ("throw", ("slot", 1)), variables=(INT,))
            self.body(True, around((inner,)), ("set", 2, ONE), variables=(INT, INT))
            self.body(False, around((inner,)), ("set", 2, ("slot", 1)), variables=(INT, INT))
            self.body(True, inner, around((("set", 1, ONE), ("set", 2, ("slot", 1)))), ("set", 1, ONE),
                      variables=(INT, INT))
        self.body(False, ("if", ONE, (inner,), (("throw", ("slot", 1)),)), variables=(INT,))
        self.body(False, ("if", ONE, (inner,), (inner,)), variables=(INT,))
        self.body(True, ("if", ONE, (inner,), (("set", 2, ONE),)), variables=(INT, INT))

    def test_try(self):
        self.body(True, ("try", (), 1, (("throw", ("slot", 1)),)), variables=(INT,))
        self.body(True, ("try", (), 1, (("set", 1, ("slot", 1)),)), variables=(INT,))
        self.body(True, ("try", (("set", 1, ONE),), 2, (("set", 3, ("slot", 2)),)), variables=(INT, INT, INT))
        self.body(False, ("try", (("set", 2, ONE),), 1, ()), variables=(INT, INT))
        self.body(False, ("try", (("throw", ("slot", 1)),), 1, ()), variables=(INT,))
        self.body(False, ("try", (("set", 1, ONE),), 1, ()), variables=(INT,))
        self.body(False, ("try", (("set", 1, ONE),), 2, (("throw", ("slot", 1)),)), variables=(INT, INT))
        self.body(False, ("try", (), 1, ()), ("throw", ("slot", 1)), variables=(INT,))
        self.body(False, ("try", (), 1, ()), ("set", 1, ONE), variables=(INT,))
        self.body(False, ("try", (), 2, (("set", 1, ONE),)), variables=(INT, INT))
        self.body(False, ("try", (), 1, (("set", 2, ONE),)), ("set", 2, ONE), variables=(INT, INT))
        self.body(True, ("try", (), 1, (("set", 2, ONE),)), ("set", 3, ONE), variables=(INT, INT, INT))
        for kind in (BYTES, A, F):
            self.body(False, ("try", (), 1, ()), variables=(kind,))
        self.body(False, ("try", (), 1, ()))
        self.body(False, ("try", (), 0, ()))
        self.body(False, ("try", (), 1, ()), params=(INT,))
        self.body(False, ("try", (), 1, (), ()), variables=(INT,))

    def test_ends(self):
        ending = (BACK,), (("throw", ONE),), (("if", ONE, (BACK,), (("throw", ONE),)),), (("begin",), BACK)
        going = (), (("begin",),), (("if", ONE, (BACK,), ()),), (("if", ONE, (), (BACK,)),), (("while", ONE, (BACK,)),)
        for body in ending:
            self.body(True, *body, result=INT)
            self.body(False, *body, ("begin",), result=INT)
            self.body(False, *body, BACK, result=INT)
            self.body(True, ("while", ONE, body), BACK, result=INT)
            self.body(False, ("while", ONE, body + (("begin",),)), BACK, result=INT)
            for other in ending + going:
                holds = other in ending
                self.body(holds, ("try", body, 1, other), result=INT, variables=(INT,))
                self.body(holds, ("if", ONE, other, body), result=INT)
                self.body(not holds, ("try", other, 1, body), BACK, result=INT, variables=(INT,))
        for body in going:
            self.body(False, *body, result=INT)
            self.body(True, *body, BACK, result=INT)
            self.body(False, ("try", body, 1, body), result=INT, variables=(INT,))
            self.body(True, ("try", body, 1, body), BACK, result=INT, variables=(INT,))
        self.body(False, ("return", None), ("begin",))
        self.body(True, ("begin",), ("return", None))


class LimitTest(Case):
    def test_depth(self):
        self.body(True, ("throw", nest(14, ONE)))
        self.body(False, ("throw", nest(15, ONE)))
        body = (("begin",),)
        for _ in range(15):
            body = (("while", ONE, body),)
        self.body(True, *body)
        self.body(False, ("while", ONE, body))
        self.body(True, ("throw", ("callc", THIS, 0, 0, (nest(13, ONE),))))
        self.body(False, ("throw", ("callc", THIS, 0, 0, (nest(14, ONE),))))
        self.body(True, ("do", ("callc", THIS, 0, 0, (nest(13, ONE),)), INT))
        self.body(False, ("do", ("callc", THIS, 0, 0, (nest(14, ONE),)), INT))
        self.body(True, ("return", nest(14, ONE)), result=INT)
        self.body(False, ("return", nest(15, ONE)), result=INT)
        self.body(True, ("try", (), 1, (("throw", nest(13, ONE)),)), variables=(INT,))
        self.body(False, ("try", (), 1, (("throw", nest(14, ONE)),)), variables=(INT,))

    def test_nodes(self):
        self.body(True, *[("begin",)] * 300)
        self.body(False, *[("begin",)] * 301)
        self.body(True, *[("begin",)] * 298, ("throw", ONE))
        self.body(False, *[("begin",)] * 299, ("throw", ONE))
        self.body(True, *[("set", 1, ("op", "+", ONE, ONE))] * 75, params=(INT,))
        self.body(False, *[("set", 1, ("op", "+", ONE, ONE))] * 75, ("begin",), params=(INT,))
        e = ONE
        for _ in range(13):
            e = ("op", "+", e, e)
        self.body(False, ("throw", e))

    def test_items(self):
        names = [f"x{n}" for n in range(61)]
        many = [("h" + str(n), (), NOTHING) for n in range(61)]
        for count, holds in ((60, True), (61, False)):
            used = {name: (0, ()) for name in names[:count]}
            self.assertIs(is_core(tree(uses=tuple((name, 0) for name in names[:count])), used), holds)
            self.assertIs(is_core(tree(faces=tuple((name, ()) for name in names[:count])), {}), holds)
            self.assertIs(is_core(tree(classes=tuple(row(name) for name in names[:count])), {}), holds)
            self.assertIs(is_core(tree(faces=(("F", tuple(many[:count])),)), {}), holds)
            self.assertIs(is_core(tree(faces=(("F", (("h", (INT,) * count, INT),)),)), {}), holds)
            self.assertIs(is_core(tree(classes=(row("C", fields=(INT,) * count),)), {}), holds)
            self.assertIs(is_core(program(params=(INT,) * count), USED), holds)
            sets = tuple(("set", n + 1, ONE) for n in range(count))
            self.assertIs(is_core(program(variables=(INT,) * count, body=sets), USED), holds)
            table, methods = holder(*many[:count])
            self.assertIs(is_core(tree(classes=(row("C", table=table, methods=methods),)), {}), holds)
            table, methods = holder(*many[:30])
            rest, others = holder(*many[30:count], k=1)
            heir = row("D", 0, table=table + rest, methods=others)
            self.assertIs(is_core(tree(classes=(row("C", table=table, methods=methods), heir)), {}), holds)
            faces = tuple((name, ()) for name in names[:60])
            used = {"q": (0, (("Z", ()),))}
            own = tuple(("face", "own", name) for name in names[:60])
            own += (("face", "q", "Z"),) if count == 61 else ()
            self.assertIs(is_core(tree(uses=(("q", 0),), faces=faces, classes=(row("C", faces=own),)), used), holds)
            head = ("made", (INT,), NOTHING), ("process", (INT,), INT)
            table, methods = holder(*head)
            classes = [row("C", table=table, methods=methods)] + [row(name, 0, table=table) for name in names[:59]]
            self.assertIs(is_core(tree(classes=tuple(classes), applets=tuple(range(count))), {}), holds)

    def test_methods(self):
        heads = [("h" + str(n), (), NOTHING) for n in range(60)]
        classes = []
        for k in range(2):
            table, methods = holder(*heads, k=k)
            classes.append(row(f"C{k}", table=table, methods=methods))
        self.right(tree(classes=tuple(classes)))
        table, methods = holder(heads[0], k=2)
        self.wrong(tree(classes=tuple(classes) + (row("C2", table=table, methods=methods),)))
        self.right(tree(classes=tuple(classes) + (row("C2", 0, table=classes[0][4]),)))


class PackageTest(Case):
    def test_small(self):
        self.right(tree(), {})
        self.right(tree(version=0), {})
        self.right(tree(version=255), {})
        for version in (-1, 256, True, None, "1", 1.0):
            self.wrong(tree(version=version), {})
        for name in ("", "if", "2a", "a" * 21, None, 1, ["a"], "a b"):
            self.wrong(tree(name=name), {})
            self.wrong(tree(faces=((name, ()),)), {})
            self.wrong(tree(classes=(row(name),)), {})
            self.wrong(tree(faces=(("F", ((name, (), INT),)),)), {})
            table, methods = holder((name, (), NOTHING))
            self.wrong(tree(classes=(row("C", table=table, methods=methods),)), {})
            self.wrong(tree(uses=((name, 1),)), {"a": (1, ()), "if": (1, ()), "": (1, ()), "2a": (1, ())})

    def test_uses(self):
        used = {"a": (1, ()), "b": (2, ()), "own": (1, ())}
        self.right(tree(uses=(("a", 1), ("b", 2))), used)
        for uses in ((("a", 2),), (("c", 1),), (("own", 1),), (("a", 1), ("a", 1)), (("a", True),), (["a", 1],),
                     (("a", 1, 0),), (("a",),), [("a", 1)], (("a", "1"),), (("a", 1.0),), (("a", None),)):
            self.wrong(tree(uses=uses), used)
        self.wrong(tree(uses=(("a", 1),)), {"a": (256, ())})
        self.wrong(tree(uses=(("a", 1),)), {})
        self.wrong(tree(uses=(("a", 256),)), {"a": (256, ())})

    def test_other_entries(self):
        used = dict(USED)
        used["other"] = "nothing of all this"
        used["own"] = (1, (("H", (GO,)),))
        self.right(program(), used)
        self.body(False, ("throw", ("is", THIS, ("face", "own", "H"))))
        self.wrong(program(body=(("throw", ("is", THIS, ("face", "own", "H"))),)), used)
        self.wrong(program(body=(("throw", ("is", THIS, FAR)),)), used)

    def test_names_differ(self):
        self.wrong(tree(faces=(("F", ()), ("F", ()))), {})
        self.wrong(tree(classes=(row("C"), row("C"))), {})
        self.wrong(tree(faces=(("F", ()),), classes=(row("F"),)), {})
        self.right(tree(name="F", faces=(("F", ()),)), {})
        self.wrong(tree(faces=(("F", (("a", (), INT), ("a", (), INT))),)), {})
        self.wrong(tree(faces=(("F", (("a", (), INT), ("a", (INT,), INT))),)), {})
        self.right(tree(faces=(("F", (("a", (), INT),)), ("G", (("a", (INT,), INT),)))), {})
        table, methods = holder(("a", (), NOTHING), ("a", (), NOTHING))
        self.wrong(tree(classes=(row("C", table=table, methods=methods),)), {})
        self.wrong(tree(classes=(row("C", table=table[1:], methods=methods),)), {})
        table, methods = holder(("C", (), NOTHING))
        self.right(tree(classes=(row("C", table=table, methods=methods),)), {})

    def test_known_types(self):
        faces = (("F", ()),)
        for kind in (INT, BYTES, ("face", "own", "F"), PAY):
            value = tree(uses=(("bank", 2),), faces=faces + (("G", (("a", (kind,), kind),)),))
            self.right(value)
            table, methods = holder(("a", (kind,), kind))
            self.right(tree(uses=(("bank", 2),), faces=faces, classes=(row("C", fields=(kind,), table=table,
                                                                           methods=methods),)))
        for kind in (FAR, ("face", "own", "X"), ("face", "bank", "X"), ("class", 1), NOTHING, NULL, ("class", -1),
                     ("class", True), (), "int", ["int"], None, ("int", 0), ("face", "own"), ("class", False)):
            for head in (("a", (kind,), INT), ("a", (), kind)):
                if head[2] == NOTHING:
                    continue
                self.wrong(tree(uses=(("bank", 2),), faces=faces + (("G", (head,)),)))
                table, methods = holder(head)
                self.wrong(tree(uses=(("bank", 2),), faces=faces, classes=(row("C", table=table, methods=methods),)))
            self.wrong(tree(uses=(("bank", 2),), faces=faces, classes=(row("C", fields=(kind,)),)))
            if kind != ("class", 1):
                self.wrong(program(variables=(kind,), body=(("set", 1, NULL),)))
        self.wrong(tree(faces=(("F", (("a", (("class", 0),), INT),)),), classes=(row("C"),)), {})
        self.wrong(tree(faces=(("F", (("a", (), ("class", 0)),)),), classes=(row("C"),)), {})
        self.right(tree(faces=(("F", (("a", (), NOTHING),)),)), {})
        self.right(tree(classes=(row("C", fields=(("class", 1),)), row("D", fields=(("class", 0), ("class", 1))))), {})

    def test_bodies_that_use_later_classes(self):
        # The class 0 uses parts of the class 1 that are wrong themselves.
        later = ("slot", 1)
        calls = (("do", ("callc", later, 1, 0, (NULL,)), NOTHING), ("throw", ("is", ("get", later, 1, 0), A)),
                 ("put", later, 1, 0, NULL), ("throw", ("same", ("get", later, 1, 0), NULL)))
        for statement in calls:
            table, methods = holder(("m", (B,), NOTHING))
            first = row("A", table=table, methods=(methods[0][:4] + ((statement,),),))
            for kind in (A, (), ("int", 0), ("face",), ("class",), ("class", 9), ("class", "A"), ("face", "own", "X"), NOTHING, INT):
                table, methods = holder(("h", (kind,), NOTHING), k=1)
                second = row("B", fields=(kind,), table=table, methods=methods)
                self.assertIs(is_core(tree(classes=(first, second)), {}), kind == A, (statement, kind))
                second = row("B", fields=(kind,), table=table)
                self.wrong(tree(classes=(first, second)), {})

    def test_parents(self):
        self.right(tree(classes=(row("C"), row("D", 0), row("E", 1), row("H", 0))), {})
        for parent in (1, 2, -2, True, False, None, "C", 0.0, 61, -1.0):
            self.wrong(tree(classes=(row("C"), row("D", parent))), {})
        self.wrong(tree(classes=(row("C", 0),)), {})
        self.wrong(tree(classes=(row("C", 1), row("D", 0))), {})

    def test_fields(self):
        for fields, holds in (((INT, BYTES), True), ((INT, BYTES, INT), True), ((INT,), False), ((BYTES, INT), False),
                              ((), False), ([INT, BYTES], False), (((("class", 0)), INT, BYTES), False)):
            classes = (row("C", fields=(INT, BYTES)), row("D", 0, fields=fields))
            self.assertIs(is_core(tree(classes=classes), {}), holds)

    def test_listed_faces(self):
        faces = (("F", ()), ("G", (GO,)))
        for own, holds in (((F,), True), ((), True), ((F, F), False), ((("face", "own", "X"),), False), ((INT,), False),
                           ((("class", 0),), False), ((G,), False), ((FAR,), False), (("F",), False), ([F], False)):
            self.assertIs(is_core(tree(faces=faces, classes=(row("C", faces=own),)), {}), holds, own)
        table, methods = holder(GO)
        self.right(tree(faces=faces, classes=(row("C", faces=(G, F), table=table, methods=methods),)), {})
        self.right(tree(faces=faces, classes=(row("C", table=table, methods=methods), row("D", 0, (G,), table=table))), {})
        heir = row("D", 0, (G, F), table=table)
        self.right(tree(faces=faces, classes=(row("C", faces=(G,), table=table, methods=methods), heir)), {})
        for head in (("go", (INT,), BYTES), ("go", (INT, INT), INT), ("go", (), INT), ("g", (INT,), INT),
                     ("go", (INT,), NOTHING), ("go", (BYTES,), INT)):
            table, methods = holder(head)
            self.right(tree(faces=faces, classes=(row("C", faces=(F,), table=table, methods=methods),)), {})
            self.wrong(tree(faces=faces, classes=(row("C", faces=(G,), table=table, methods=methods),)), {})
        table, methods = holder(("ask", (INT, BYTES), INT), ("peer", (), PAY))
        value = tree(uses=(("bank", 2),), classes=(row("C", faces=(ASK,), table=table, methods=methods),))
        self.right(value)
        table, methods = holder(("ask", (INT, BYTES), INT))
        self.wrong(tree(uses=(("bank", 2),), classes=(row("C", faces=(ASK,), table=table, methods=methods),)))

    def test_tables(self):
        first, second, third = ("a", (INT,), INT), ("b", (), NOTHING), ("c", (), NOTHING)
        table, methods = holder(first, second)
        base = row("C", table=table, methods=methods)
        _, own = holder(third, second, k=1)
        good = (table[0], second + (1, 1), third + (1, 0))
        heir = row("D", 0, table=good, methods=own)
        self.right(tree(classes=(base, heir)), {})
        bad = (
            good[::-1], good[:2], good + good[:1], (good[1], good[0], good[2]), (good[0], table[1], good[2]),
            (good[0], second + (1, 0), third + (1, 1)), (table[0], second + (0, 1), third + (1, 0)), list(good), (),
            (first + (1, 0),) + good[1:], (table[0], second + (1, True), third + (1, 0)),
            (table[0], second + (True, 1), third + (1, 0)), (("a", (BYTES,), INT, 0, 0),) + good[1:],
            (("a", (INT,), BYTES, 0, 0),) + good[1:], (("z", (INT,), INT, 0, 0),) + good[1:], good + (third + (1, 2),),
        )
        for one in bad:
            self.wrong(tree(classes=(base, row("D", 0, table=one, methods=own))), {})
        self.wrong(tree(classes=(row("C", table=table[:1], methods=methods),)), {})
        self.wrong(tree(classes=(row("C", table=table[::-1], methods=methods),)), {})
        self.right(tree(classes=(base, row("D", 0, table=table))), {})
        self.wrong(tree(classes=(base, row("D", 0))), {})
        self.wrong(tree(classes=(base, row("D", table=table))), {})

    def test_overridden(self):
        table, methods = holder(("a", (INT,), ("class", 0)))
        base = row("C", table=table, methods=methods)
        for params, result, holds in (((INT,), ("class", 0), True), ((INT,), ("class", 1), False),
                                      ((BYTES,), ("class", 0), False), ((), ("class", 0), False),
                                      ((INT,), NOTHING, False)):
            rows, own = holder(("a", params, result), k=1)
            self.assertIs(is_core(tree(classes=(base, row("D", 0, table=rows, methods=own))), {}), holds)

    def test_applets(self):
        made, process = ("made", (INT,), NOTHING), ("process", (INT,), INT)
        table, methods = holder(made, process)
        classes = (row("C", table=table, methods=methods), row("D", 0, table=table), row("E"))
        for applets, holds in (((), True), ((0,), True), ((1,), True), ((0, 1), True), ((1, 0), False), ((0, 0), False),
                               ((2,), False), ((3,), False), ((-1,), False), ((False,), False), ((True,), False),
                               ([0], False), (("C",), False), ((0.0,), False), (None, False), ((0, 1, 1), False)):
            self.assertIs(is_core(tree(classes=classes, applets=applets), {}), holds, applets)
        for heads in ((made,), (process,), (made, ("process", (INT,), NOTHING)), (made, ("process", (), INT)),
                      (made, ("process", (BYTES,), INT)), (("made", (INT,), INT), process), (("made", (), NOTHING), process),
                      (made, ("process", (INT,), BYTES)), (("made", (INT, INT), NOTHING), process), ()):
            table, methods = holder(*heads)
            value = tree(classes=(row("C", table=table, methods=methods),))
            self.right(value, {})
            self.wrong(value[:6] + ((0,),), {})


def paths(value, ahead=()):
    """Return the paths to all parts of a value."""
    yield ahead
    if isinstance(value, tuple):
        for place, item in enumerate(value):
            yield from paths(item, ahead + (place,))


def at(value, path):
    for place in path:
        value = value[place]
    return value


def replaced(value, path, part):
    if not path:
        return part
    place = path[0]
    return value[:place] + (replaced(value[place], path[1:], part),) + value[place + 1:]


class AnyValueTest(Case):
    def test_any(self):
        for value in ANY:
            self.wrong(value, {})
            for place in (0, 1, 3, 4, 5, 6):
                if not (isinstance(value, tuple) and len(value) == 0 or isinstance(value, str) and place == 1):
                    self.wrong(replaced(tree(), (place,), value), {})

    def test_each_part_exchanged(self):
        for seed in (10, 22, 39):
            self.exchange_parts(Programs(seed).core(room=6))

    def exchange_parts(self, core):
        self.right(core)
        for number, path in enumerate(paths(core)):
            part = at(core, path)
            others = [ANY[(number + k * 7) % len(ANY)] for k in range(3)]
            if isinstance(part, tuple):
                others += [list(part), part + (part[:1] or (0,)), (part,)]
                others += [part[:-1], part[1:], part[::-1]] if part else []
            elif isinstance(part, int):
                others += [float(part), part + 1, part - 1, str(part), bool(part), (part,)]
            elif isinstance(part, str):
                others += [part.encode(), part + "x", [part], (part,), part[:-1]]
            for other in others:
                value = replaced(core, path, other)
                found = is_core(value, USED)
                self.assertIn(found, (True, False))
                if isinstance(other, (list, float, bool, bytes, set, dict)):
                    self.assertIs(found, False, (path, other))
                if found:
                    self.assertEqual(check(source(value, USED), USED), value)

    def test_arguments_stay(self):
        used = deepcopy(USED)
        core = Programs(5).core()
        is_core(core, used)
        self.assertEqual(used, USED)
        self.assertEqual(core, Programs(5).core())


if __name__ == "__main__":
    unittest.main()
