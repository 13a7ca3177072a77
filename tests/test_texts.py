"""Points 100, 101 and 107."""

import unittest

from values import ANY
from warycard.texts import is_integer, is_name, is_printable, is_text


class TextsTest(unittest.TestCase):
    def check(self, test, right, wrong):
        for value in right:
            self.assertIs(test(value), True, value)
        for value in wrong:
            self.assertIs(test(value), False, value)

    def test_any_value(self):
        for value in ANY:
            for test in (is_printable, is_name, is_text):
                self.assertIn(test(value), (True, False))
            self.assertIn(is_integer(value, -5, 5), (True, False))

    def test_no_strings(self):
        for value in (None, True, False, 0, 5, 10 ** 40, b"", b"a", [], ["a"], (), ("a",), {}, {"a": 1}):
            self.check(is_printable, (), (value,))
            self.check(is_name, (), (value,))
            self.check(is_text, (), (value,))

    def test_is_integer(self):
        for least, greatest in ((0, 255), (-3, 3), (5, 5), (-10 ** 40, 10 ** 40)):
            self.assertIs(is_integer(least, least, greatest), True)
            self.assertIs(is_integer(greatest, least, greatest), True)
            self.assertIs(is_integer(least - 1, least, greatest), False)
            self.assertIs(is_integer(greatest + 1, least, greatest), False)
        self.assertIs(is_integer(0, 1, -1), False)
        for value in (True, False, None, "1", b"1", 1.0, (), [], {}):
            self.assertIs(is_integer(value, -9, 9), False)

    def test_is_printable(self):
        shown = "".join(chr(code) for code in range(32, 127) if code != 37)
        self.check(is_printable, ("", " ", "~", '"', shown, shown * 500), ("\n", "a\nb", "\t", "\r", "\x00", "\x1f"))
        self.check(is_printable, (), (chr(37), "a" + chr(37), chr(127), chr(128), "\u00e9", "\u2028", "\U0001f600"))
        self.check(is_printable, shown, ())

    def test_is_name(self):
        right = ("a", "Z", "z9", "A" * 20, "a" + "0" * 19, "Purse2", "if", "package", "true")
        wrong = ("", "A" * 21, "a" + "0" * 20, "2nd", "0", "a_b", "_a", "a b", " a", "a ", "a-b", "a.b", "a\n")
        self.check(is_name, right, wrong)
        self.check(is_name, (), ("\u00e9", "a\u00e9", "a\u0663", "\u0663", "a\u00b2", "\uff41"))
        letters = "abcdefghijklmnopqrstuvwxyzABCDEFGHIJKLMNOPQRSTUVWXYZ"
        self.check(is_name, letters, "0123456789@[`{/:")
        for code in range(300):
            self.assertIs(is_name("a" + chr(code)), chr(code) in letters + "0123456789")

    def test_is_text(self):
        self.check(is_text, ("a", " ", "bus pass", "#", "a" * 16, " " * 16), ("", "a" * 17, '"', 'a"b', chr(37)))
        self.check(is_text, (), ("a\n", "\n", "\u00e9", "a" + chr(37), "a" * 17 + '"'))


if __name__ == "__main__":
    unittest.main()
