"""Points 105 and 106."""

import unittest
from ctypes import c_int16
from fractions import Fraction
from math import floor, trunc

from values import ANY
from warycard.words import SIGNS, is_word, op, wrap

EDGES = (-32768, -32767, -16384, -257, -256, -7, -2, -1, 0, 1, 2, 3, 7, 15, 16, 17, 255, 256, 16384, 32766, 32767)


def reference(sign, left, right):
    """Return the result of an operation by other means than the program."""
    if sign in ("/", "mod"):
        if right == 0:
            return None
        whole = trunc(Fraction(left, right))
        return c_int16(whole if sign == "/" else left - right * whole).value
    if sign in ("&", "|", "^"):
        rows = zip(format(left & 65535, "016b"), format(right & 65535, "016b"))
        test = {"&": lambda a, b: a + b == "11", "|": lambda a, b: "1" in a + b, "^": lambda a, b: a != b}[sign]
        return c_int16(int("".join("01"[test(a, b)] for a, b in rows), 2)).value
    if sign == "<<":
        return c_int16(left * 2 ** (right % 16)).value
    if sign == ">>":
        return floor(Fraction(left, 2 ** (right % 16)))
    if sign in ("+", "-", "*"):
        return c_int16({"+": left + right, "-": left - right, "*": left * right}[sign]).value
    order = (left > right) - (left < right)
    return int(order in {"==": (0,), "!=": (-1, 1), "<": (-1,), "<=": (-1, 0), ">": (1,), ">=": (0, 1)}[sign])


class WordTest(unittest.TestCase):
    def test_is_word(self):
        for value in (-32768, -1, 0, 1, 32767):
            self.assertIs(is_word(value), True)
        for value in (-32769, 32768, 10 ** 40, -10 ** 40, True, False, None, "1", b"1", 1.0, (1,), [1], {1: 1}):
            self.assertIs(is_word(value), False)

    def test_is_word_of_any_value(self):
        for value in ANY:
            self.assertIn(is_word(value), (True, False))

    def test_wrap_keeps_words(self):
        for number in EDGES:
            self.assertEqual(wrap(number), number)

    def test_wrap_known(self):
        rows = (
            (40000, -25536), (32768, -32768), (-32769, 32767), (65535, -1), (65536, 0), (65537, 1),
            (-65535, 1), (-65536, 0), (-65537, -1), (98303, 32767), (98304, -32768),
        )
        for number, word in rows:
            self.assertEqual(wrap(number), word)

    def test_wrap_differs_by_a_multiple(self):
        many = 10 ** 39 + 1234567890123456789
        for base in (0, 65536, -65536, 3 * 65536, many, -many, 65536 * many, -65536 * many):
            for beside in (-32769, -32768, -1, 0, 1, 32767, 32768):
                word = wrap(base + beside)
                self.assertTrue(is_word(word))
                self.assertEqual((base + beside - word) % 65536, 0)

    def test_signs(self):
        wanted = ("+", "-", "*", "/", "mod", "&", "|", "^", "<<", ">>", "==", "!=", "<", "<=", ">", ">=")
        self.assertEqual(SIGNS, wanted)
        self.assertIs(type(SIGNS), tuple)

    def test_each_sign_at_the_edges(self):
        for sign in SIGNS:
            for left in EDGES:
                for right in EDGES:
                    with self.subTest(sign=sign, left=left, right=right):
                        result = op(sign, left, right)
                        self.assertEqual(result, reference(sign, left, right))
                        self.assertTrue(result is None or is_word(result))

    def test_each_sign_at_ordinary_words(self):
        words = [(k * 7919 + 13) % 65536 - 32768 for k in range(60)]
        for sign in SIGNS:
            for left, right in zip(words, reversed(words)):
                self.assertEqual(op(sign, left, right), reference(sign, left, right))
                self.assertEqual(op(sign, left, left), reference(sign, left, left))

    def test_examples(self):
        self.assertEqual(op("/", -32768, -1), -32768)
        self.assertEqual(op("mod", -7, 2), -1)
        self.assertEqual(op("<<", 1, 16), 1)
        self.assertEqual(op("/", -7, 2), -3)
        self.assertEqual(op(">>", -7, 1), -4)
        self.assertIsNone(op("mod", 5, 0))
        self.assertEqual(op("<=", 3, 3), 1)

    def test_divisions(self):
        rows = ((7, 2, 3, 1), (-7, 2, -3, -1), (7, -2, -3, 1), (-7, -2, 3, -1), (6, -3, -2, 0), (-32768, -1, -32768, 0))
        for left, right, quotient, rest in rows:
            self.assertEqual(op("/", left, right), quotient)
            self.assertEqual(op("mod", left, right), rest)
        for left in EDGES:
            self.assertIsNone(op("/", left, 0))
            self.assertIsNone(op("mod", left, 0))

    def test_shifts(self):
        self.assertEqual(op("<<", 1, 15), -32768)
        self.assertEqual(op("<<", 3, 15), -32768)
        self.assertEqual(op("<<", 1, -1), -32768)
        self.assertEqual(op("<<", 5, -16), 5)
        self.assertEqual(op(">>", -1, 15), -1)
        self.assertEqual(op(">>", 32767, -1), 0)
        self.assertEqual(op(">>", -32768, -15), -16384)
        self.assertEqual(op(">>", 9, 32), 9)

    def test_bits(self):
        self.assertEqual(op("&", -1, 255), 255)
        self.assertEqual(op("|", -32768, 1), -32767)
        self.assertEqual(op("^", -1, 32767), -32768)


if __name__ == "__main__":
    unittest.main()
