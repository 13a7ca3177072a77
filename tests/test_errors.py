"""Point 102."""

import unittest

from warycard import errors

PLAIN = ("BadTree", "BadModule", "BadPackage", "BadLink", "BadCode", "BadPaper", "StepsGone", "PowerCut")
OTHERS = ("BadSource", "BadScript", "BadProgram", "Fault")


class ErrorsTest(unittest.TestCase):
    def test_base(self):
        self.assertEqual(errors.CardError.__bases__, (ValueError,))
        self.assertIsInstance(errors.CardError(), ValueError)

    def test_names(self):
        found = {name for name, value in vars(errors).items() if isinstance(value, type)}
        self.assertEqual(found, {"CardError", *PLAIN, *OTHERS})

    def test_each_is_a_direct_subclass_of_no_other_class(self):
        for name in PLAIN + OTHERS:
            with self.subTest(name):
                made = getattr(errors, name)
                self.assertEqual(made.__bases__, (errors.CardError,))
                self.assertEqual(made.__module__, "warycard.errors")
                self.assertEqual(made.__name__, name)

    def test_without_arguments(self):
        for name in PLAIN:
            with self.subTest(name), self.assertRaises(errors.CardError) as caught:
                raise getattr(errors, name)()
            self.assertEqual(caught.exception.__class__, getattr(errors, name))

    def test_line_and_reason(self):
        for made in (errors.BadSource, errors.BadScript):
            with self.subTest(made):
                error = made(3, "why")
                self.assertEqual((error.line, error.reason), (3, "why"))
                error = made(line=0, reason="")
                self.assertEqual((error.line, error.reason), (0, ""))
                self.assertRaises(TypeError, made)
                self.assertRaises(TypeError, made, 3)
                self.assertRaises(TypeError, made, 3, "why", 4)

    def test_reason(self):
        self.assertEqual(errors.BadProgram("why").reason, "why")
        self.assertEqual(errors.BadProgram(reason="so").reason, "so")
        self.assertFalse(hasattr(errors.BadProgram("why"), "line"))
        self.assertRaises(TypeError, errors.BadProgram)
        self.assertRaises(TypeError, errors.BadProgram, 3, "why")

    def test_code(self):
        for code in (-10, -1, 0, 5, -32768):
            self.assertEqual(errors.Fault(code).code, code)
        self.assertEqual(errors.Fault(code=-3).code, -3)
        self.assertRaises(TypeError, errors.Fault)
        self.assertRaises(TypeError, errors.Fault, 1, 2)


if __name__ == "__main__":
    unittest.main()
