"""Points 200 to 205."""

import unittest

from values import ANY
from warycard.errors import BadSource
from warycard.tokens import KEYWORDS, is_free_name, tokens

PERCENT = chr(37)
SIGNS = "{ } ( ) [ ] ; , . = + - * / & | ^ < > << >> == != <= >=".split()
WORDS = (
    "abort and applet as begin buffer bytes catch class commit else face field has if int is mod new not nothing null "
    "of or package return seek size temp this throw try use while"
).split()


def pairs(text):
    return [(kind, value) for kind, value, _ in tokens(text)]


def sign_row(text):
    return [value for kind, value in pairs(text) if kind == "sign"]


class TokensTest(unittest.TestCase):
    def refused(self, text, line):
        with self.assertRaises(BadSource) as caught:
            tokens(text)
        self.assertEqual(caught.exception.line, line, text)
        self.assertIsInstance(caught.exception.reason, str)

    def test_nothing(self):
        for text in ("", " ", "\n\n", "# x", "   # x\n#\n##\n"):
            self.assertEqual(tokens(text), ())

    def test_example(self):
        self.assertEqual(
            tokens("x = 7; # seven"),
            (("name", "x", 1), ("sign", "=", 1), ("number", 7, 1), ("sign", ";", 1)),
        )

    def test_every_kind_over_lines(self):
        text = 'package p\n  12;\n\n"a b"# c\n<=x#\n if'
        self.assertEqual(
            tokens(text),
            (
                ("keyword", "package", 1), ("name", "p", 1), ("number", 12, 2), ("sign", ";", 2), ("text", "a b", 4),
                ("sign", "<=", 5), ("name", "x", 5), ("keyword", "if", 6),
            ),
        )

    def test_kinds_of_values(self):
        found = tokens("a 7 if ; \"x\"")
        self.assertIs(type(found), tuple)
        for row in found:
            self.assertEqual([type(row), type(row[0]), type(row[2])], [tuple, str, int])
            self.assertIs(type(row[1]), int if row[0] == "number" else str)

    def test_no_space_is_needed(self):
        wanted = [("name", "a"), ("sign", "<<"), ("sign", "="), ("name", "b")]
        self.assertEqual(pairs("a<<=b"), wanted)
        self.assertEqual(pairs("a<< =b"), wanted)
        self.assertEqual(pairs("a<\n<=b"), [("name", "a"), ("sign", "<"), ("sign", "<="), ("name", "b")])
        self.assertEqual(pairs('x"y"z'), [("name", "x"), ("text", "y"), ("name", "z")])
        self.assertEqual(pairs('"y""z"'), [("text", "y"), ("text", "z")])
        self.assertEqual(pairs('7"y"8'), [("number", 7), ("text", "y"), ("number", 8)])
        self.assertEqual(pairs("a#b\nc"), [("name", "a"), ("name", "c")])
        self.assertEqual(pairs("if(a)7"),
                         [("keyword", "if"), ("sign", "("), ("name", "a"), ("sign", ")"), ("number", 7)])

    def test_signs(self):
        for sign in SIGNS:
            self.assertEqual(tokens(sign), (("sign", sign, 1),))
            self.assertEqual(pairs(f"a{sign}1"), [("name", "a"), ("sign", sign), ("number", 1)])

    def test_longest_signs(self):
        rows = (
            ("<<<", ["<<", "<"]), ("<<<<", ["<<", "<<"]), (">>=", [">>", "="]), ("<=>", ["<=", ">"]),
            ("===", ["==", "="]),
            ("=!=", ["=", "!="]), ("!==", ["!=", "="]), ("<>", ["<", ">"]), ("><", [">", "<"]), ("=<", ["=", "<"]),
            ("=>", ["=", ">"]), ("--", ["-", "-"]), ("&&", ["&", "&"]), ("||", ["|", "|"]), ("=<=", ["=", "<="]),
        )
        for text, wanted in rows:
            self.assertEqual(sign_row(text), wanted)

    def test_keywords(self):
        self.assertEqual(KEYWORDS, tuple(WORDS))
        for word in WORDS:
            self.assertEqual(tokens(word), (("keyword", word, 1),))
            self.assertEqual(tokens(word + "x"), (("name", word + "x", 1),))
            self.assertEqual(tokens(word + "1"), (("name", word + "1", 1),))
            self.assertEqual(tokens(word.title()), (("name", word.title(), 1),))

    def test_names(self):
        for name in ("a", "Z", "a" * 20, "z9Z", "true", "self"):
            self.assertEqual(tokens(name), (("name", name, 1),))
        self.refused("a" * 21, 1)
        self.refused("x\ny\n " + "a" * 21, 3)
        self.refused("if" * 11, 1)
        self.refused("a_b", 1)
        self.refused("x\n\u00e9", 2)

    def test_numbers(self):
        for number in (0, 1, 9, 10, 255, 256, 9999, 10000, 32766, 32767):
            self.assertEqual(tokens(str(number)), (("number", number, 1),))
        for word in ("32768", "99999", "100000", "00", "01", "007", "0032", "1a", "0x1", "9a9", "7" * 6000, "0" * 9):
            self.refused(word, 1)
            self.refused("a;\n" + word, 2)
        self.assertEqual(pairs("-5"), [("sign", "-"), ("number", 5)])
        self.assertEqual(pairs("1.5"), [("number", 1), ("sign", "."), ("number", 5)])

    def test_texts(self):
        for text in ("a", " ", "#", "a # b", "if", "a" * 16, "'", "\\", "\\n", "!"):
            self.assertEqual(tokens(f'"{text}"'), (("text", text, 1),))
        self.assertEqual(pairs('"#" a # "'), [("text", "#"), ("name", "a")])
        wrong = (
            '""', '"', '"a', '"abc;', 'x = "abc', '"a\n"', '"a\nb"', f'"{PERCENT}"', '"\u00e9"', '"a\t"', '"a" "',
            '"' + "a" * 17 + '"', '"' + "a" * 40,
        )
        for text in wrong:
            self.refused(text, 1)
        self.refused('a\n"b"\n"c\n"', 3)

    def test_single_characters(self):
        for letter in "!$'?@\\_`~:":
            self.refused(letter, 1)
            self.refused("a\n" + letter, 2)
            self.refused("a" + letter + "b", 1)
        self.refused("! =", 1)
        self.refused("a !\n= b", 1)
        self.assertEqual(tokens("# !$'?@\\_`~:\n"), ())

    def test_characters_that_are_not_printable(self):
        for letter in ("\t", "\r", "\x00", "\x1f", "\x7f", "\x0b", "\x85", "\u00e9", "\u2028", "\ud800", PERCENT):
            for text in (letter, "a" + letter, "# " + letter, "#" + letter + "\n;"):
                self.refused(text, 1)
                self.refused("\n;\n" + text, 3)

    def test_the_first_place_counts(self):
        self.refused("a\n! \n\t", 2)
        self.refused("a\n# \t\n!", 2)
        self.refused('00\n"', 1)
        self.refused('x "\n' + "a" * 21, 1)

    def test_length(self):
        self.assertEqual(len(tokens(";" * 20000)), 20000)
        self.assertEqual(tokens(" " * 20000), ())
        self.refused(";" * 20001, 0)
        self.refused(" " * 20001, 0)
        self.refused("\n!" * 20001, 0)
        self.refused("\n" * 19999 + "!", 20000)

    def test_no_strings(self):
        for value in ANY:
            if not isinstance(value, str):
                with self.assertRaises(BadSource) as caught:
                    tokens(value)
                self.assertEqual(caught.exception.line, 0)

    def test_arguments_stay(self):
        row = ["a", "b"]
        self.assertRaises(BadSource, tokens, row)
        self.assertEqual(row, ["a", "b"])

    def test_is_free_name(self):
        for word in WORDS:
            self.assertIs(is_free_name(word), False)
            self.assertIs(is_free_name(word.upper()), True)
        for name in ("a", "Z9", "a" * 20, "abortx", "self"):
            self.assertIs(is_free_name(name), True)
        for value in ("", "a" * 21, "9a", "a b", "a_b", "\u00e9", None, True, False, 0, b"a", ["a"], ("a",), {}):
            self.assertIs(is_free_name(value), False)
        for value in ANY:
            self.assertIn(is_free_name(value), (True, False))


if __name__ == "__main__":
    unittest.main()
