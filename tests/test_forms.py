"""Points 206 to 208."""

import unittest

from trees import SIGNS, Maker, program
from values import ANY
from warycard.forms import is_tree

E = ("name", "a")
T = ("name", "T")
CALL = ("call", E, "f", ())
# What a part of a statement or an expression may be, and what it may not be.
RIGHT = {
    "e": (E, ("int", 0), CALL, ("neg", E), ("seek", ("of", "a", "b"), "x")),
    "e?": (None, E, CALL),
    "call": (CALL, ("call", CALL, "f", (E, E, E))),
    "name": ("a", "Z" * 20, "x1"),
    "type": ("int", "bytes", T, ("of", "a", "b")),
    "named": (T, ("of", "a", "b")),
    "body": ((), (("begin",),), (("begin",), ("set", "a", E), ("begin",))),
    "args": ((), (E,), (E, CALL, E)),
    "n": (0, 1, 32766, 32767),
    "text": ("x", "a" * 16, "#", "if"),
    "sign": SIGNS,
}
TREES = ((), [], ("begin",), ("set", "a", E), ["name", "a"], ("a",), ("name",), ("int",), ("null", 1), (E,),
         ("Name", "a"))
WRONG = {
    "e": (None, True, 1, "a", T[0], ("int", True), ("int", -1), ("int", 32768), ("of", "a", "b"), *TREES),
    "e?": (False, 0, "", "a", *TREES),
    "call": (None, E, ("get", E, "f"), ["call", E, "f", ()], ("call", E, "f"), ("call", None, "f", ()), *TREES),
    "name": (None, True, 1, "", "if", "size", "9a", "a" * 21, "a b", b"a", ("name", "a"), ["a"]),
    "type": (None, "", "null", "name", "a", True, 1, ("int",), ("name", "if"), ["name", "T"], ("of", "a"),
             ("of", "a", "if")),
    "named": (None, "int", "bytes", "T", ("name",), ("name", "T", "U"), ("of", "T"), ("of", "of", "T"),
              ["of", "a", "b"]),
    "body": (None, True, [], [("begin",)], ("begin",), (E,), (("begin",), None), ((),), "", {}),
    "args": (None, True, [], [E], E, (None,), (("begin",),), "", {}, ((),)),
    "n": (True, False, None, -1, 32768, 10 ** 40, "1", 1.0, (1,)),
    "text": (None, "", "a" * 17, '"', chr(37), "\n", "\u00e9", 1, True, b"x", ("x",)),
    "sign": (None, "", "=", "!", "or", "and", "not", "is", "neg", True, 1, ("+",), ["+"], "+ "),
}
STATEMENTS = (
    ("var", "type", "name", "e"), ("set", "name", "e"), ("put", "e", "name", "e"), ("store", "e", "e", "e"),
    ("if", "e", "body", "body"), ("while", "e", "body"), ("return", "e?"), ("throw", "e"),
    ("try", "body", "name", "body"), ("do", "call"), ("begin",), ("commit",), ("abort",),
)
EXPRESSIONS = (
    ("or", "e", "e"), ("and", "e", "e"), ("not", "e"), ("op", "sign", "e", "e"), ("is", "e", "named"), ("neg", "e"),
    ("get", "e", "name"), ("size", "e"), ("at", "e", "e"), ("call", "e", "name", "args"), ("as", "e", "named"),
    ("int", "n"), ("null",), ("this",), ("buffer",), ("name", "name"), ("new", "name"), ("bytes", "e"), ("temp", "e"),
    ("seek", "named", "text"),
)


def changes(node):
    """Return what a tuple of a fixed form becomes by leaving out, putting in or doubling an item."""
    yield list(node)
    yield node + (None,)
    yield node + (E,)
    yield (node,)
    for at in range(len(node)):
        yield node[:at] + node[at + 1:]
        yield node[:at] + (node[at],) + node[at:]
        yield node[:at] + (None,) + node[at:]


class FormsTest(unittest.TestCase):
    def right(self, value):
        self.assertIs(is_tree(value), True, value)

    def wrong(self, value):
        self.assertIs(is_tree(value), False, value)

    def each(self, forms, wrap):
        """Try every form with every right part and every wrong part."""
        for word, *parts in forms:
            base = tuple(RIGHT[part][0] for part in parts)
            self.right(wrap((word,) + base))
            for node in changes((word,) + base):
                self.wrong(wrap(node))
            for other in (word.upper(), word + "x", "", None, True, 1, b"x", (word,), [word], {}):
                self.wrong(wrap((other,) + base))
            for at, part in enumerate(parts):
                for value in RIGHT[part]:
                    self.right(wrap((word,) + base[:at] + (value,) + base[at + 1:]))
                for value in WRONG[part]:
                    self.wrong(wrap((word,) + base[:at] + (value,) + base[at + 1:]))

    def test_statements(self):
        self.each(STATEMENTS, program)
        self.each(STATEMENTS, lambda node: program(("begin",), ("while", E, (("if", E, (), (node,)),))))

    def test_expressions(self):
        self.each(EXPRESSIONS, lambda node: program(("throw", node)))
        self.each(EXPRESSIONS, lambda node: program(("do", ("call", E, "f", (E, ("not", node))))))

    def test_statements_are_no_expressions(self):
        for word, *parts in STATEMENTS:
            self.wrong(program(("throw", (word,) + tuple(RIGHT[part][0] for part in parts))))
        for word, *parts in EXPRESSIONS:
            self.wrong(program((word,) + tuple(RIGHT[part][0] for part in parts)))

    def parts(self, base, kinds, right, wrong):
        """Try every item of a tuple with right and wrong values."""
        self.right(base)
        for node in changes(base):
            self.wrong(node)
        for at, kind in enumerate(kinds):
            for value in right[kind]:
                self.right(base[:at] + (value,) + base[at + 1:])
            for value in wrong[kind]:
                self.wrong(base[:at] + (value,) + base[at + 1:])

    def test_package(self):
        head = ("m", (("int", "a"),), None)
        row = ("class", "C", None, (), (), ())
        right = {
            "word": ("package",), "name": RIGHT["name"], "version": (0, 1, 254, 255),
            "uses": ((), (("a", 0),), (("a", 255), ("a", 255))),
            "faces": ((), (("face", "F", ()),), (("face", "F", (head, head)),) * 61),
            "classes": ((), (row,), (row,) * 61), "applets": ((), ("a",), ("a",) * 61),
        }
        wrong = {
            "word": ("Package", "class", "", None, 1), "name": WRONG["name"],
            "version": (-1, 256, True, False, None, "1", 1.0),
            "uses": (None, [], "", ("a", 1), (["a", 1],), (("a",),), (("a", 1, 1),), ((1, "a"),), (("if", 1),),
                     (("a", 256),),
                     (("a", -1),), (("a", True),), (None,)),
            "faces": (None, [], "", ("face", "F", ()), (["face", "F", ()],), (("face", "F"),), (("face", "F", (), ()),),
                      (("class", "F", ()),), (("face", "if", ()),), (("face", "F", []),), (("face", "F", head),),
                      (row,)),
            "classes": (None, [], "", row, (list(row),), (row[:5],), (row + ((),),), (None,), (("face", "F", ()),)),
            "applets": (None, [], "", "a", ["a"], ("if",), (1,), (None,), (("name", "a"),)),
        }
        base = ("package", "p", 1, (), (), (), ())
        self.parts(base, ("word", "name", "version", "uses", "faces", "classes", "applets"), right, wrong)

    def test_heads(self):
        wraps = (
            lambda head: ("package", "p", 1, (), (("face", "F", (head,)),), (), ()),
            lambda head: ("package", "p", 1, (), (), (("class", "C", None, (), (), (("method",) + head + ((),),)),),
                          ()),
        )
        for wrap in wraps:
            for params in ((), (("int", "a"),), (("int", "a"), ("int", "a"), (T, "b")), (("bytes", "a"),) * 61):
                for result in (None, "int", "bytes", T, ("of", "a", "b")):
                    self.right(wrap(("m", params, result)))
            for name in WRONG["name"]:
                self.wrong(wrap((name, (), None)))
            for params in (None, [], "", ("int", "a"), ("int",), (("int",),), (("int", "a", "b"),), (["int", "a"],),
                           (("int", "if"),),
                           (("null", "a"),), (("a", "int"),), ((None, "a"),), (True,)):
                self.wrong(wrap(("m", params, None)))
            for result in WRONG["type"][1:] + ("nothing",):
                self.wrong(wrap(("m", (), result)))
            self.wrong(wrap(("m", ())))
            self.wrong(wrap(("m", (), None, None)))
        self.wrong(wraps[0](["m", (), None]))

    def test_classes(self):
        def wrap(row):
            return ("package", "p", 1, (), (), (row,), ())

        method = ("method", "m", (), "int", ())
        rows = (
            ("name", RIGHT["name"], WRONG["name"]),
            ("parent", (None, "a"), ("", "if", True, 0, ("name", "a"), ("of", "a", "b"))),
            ("faces", ((), (T,), (T, T, ("of", "a", "b"))),
             (None, [], T, "T", ("T",), ("int",), (None,), ([],), (["name", "T"],))),
            ("fields", ((), (("int", "a"), ("int", "a"))),
             (None, [], ("int", "a"), (("int",),), (("a", "int"),), ((None, "a"),))),
            ("methods", ((), (method,), (method,) * 121),
             (None, [], method, (list(method),), (method[:4],), (method[1:],), (method + ((),),), (("m", (), None),),
              (("method", "m", (), None, None),), (("method", "m", (), None, []),), (("Method", "m", (), None, ()),))),
        )
        base = ("class", "C", None, (), (), ())
        self.right(wrap(base))
        for node in changes(base):
            self.wrong(wrap(node))
        for at, (_, right, wrong) in enumerate(rows, start=1):
            for value in right:
                self.right(wrap(base[:at] + (value,) + base[at + 1:]))
            for value in wrong:
                self.wrong(wrap(base[:at] + (value,) + base[at + 1:]))

    def test_nesting_of_expressions(self):
        chains = {
            "neg": lambda e: ("neg", e), "not": lambda e: ("not", e), "get": lambda e: ("get", e, "f"),
            "left": lambda e: ("op", "+", e, E), "right": lambda e: ("or", E, e),
            "arg": lambda e: ("call", E, "f", (E, e)),
            "index": lambda e: ("at", E, e), "as": lambda e: ("as", e, T), "is": lambda e: ("is", e, T),
        }
        for name, wrap in chains.items():
            with self.subTest(name):
                e = E
                for _ in range(14):
                    e = wrap(e)
                self.right(program(("throw", e)))
                self.wrong(program(("throw", wrap(e))))
                self.wrong(program(("begin",), ("throw", wrap(e))))
                self.wrong(program(("while", E, (("throw", e),))))
                for _ in range(5000):
                    e = wrap(e)
                self.wrong(program(("throw", e)))

    def test_nesting_of_statements(self):
        wraps = (
            lambda s: ("if", E, (s,), ()), lambda s: ("if", E, (), (s,)), lambda s: ("while", E, (s,)),
            lambda s: ("try", (s,), "a", ()), lambda s: ("try", (), "a", (s,)),
        )
        for wrap in wraps:
            single = ("begin",)
            for _ in range(15):
                single = wrap(single)
            self.right(program(single))
            self.wrong(program(wrap(single)))
            thrown = ("throw", E)
            for _ in range(14):
                thrown = wrap(thrown)
            self.right(program(thrown))
            self.wrong(program(wrap(thrown)))
            empty = ("try", (), "a", ())
            for _ in range(15):
                empty = ("try", (empty,), "a", ())
            self.right(program(empty))
            for _ in range(5000):
                single = wrap(single)
            self.wrong(program(single))

    def test_any_value(self):
        for value in ANY:
            self.wrong(value)
            self.wrong((value,) * 7)
            self.wrong(("package", "p", 1, (), (), (value,), ()))
            self.wrong(program(value))
            self.wrong(program(("throw", value)))
            self.wrong(program(("throw", (value, value))))
            self.wrong(program(("throw", ("op", value, E, E))))
            self.wrong(program(("var", value, "a", E)))
            self.wrong(program(("set", "a", ("is", E, value))))

    def test_made_trees(self):
        for seed in range(60):
            self.right(Maker(seed).tree(9))

    def test_arguments_stay(self):
        value = ["package", "p", 1, [], [], [("class", "C", None, [], [], [])], []]
        self.wrong(value)
        self.assertEqual(value, ["package", "p", 1, [], [], [("class", "C", None, [], [], [])], []])


if __name__ == "__main__":
    unittest.main()
