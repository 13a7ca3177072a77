"""Points 507 to 510, and the example of the interface."""

import unittest
from random import Random

from bundles import BACK, INT, MODULE, NOTHING, module_with, others, part_at, paths, replaced, with_code
from byteform import bytes_of, parts_of, put_together, with_sum
from moduleform import is_right
from programs import Programs
from values import ANY
from warycard.compiling import build
from warycard.errors import BadModule, BadPackage
from warycard.packing import pack, unpack

SMALL = ("module", "A", 1, (), (), (), (), ())


class PackTest(unittest.TestCase):
    def test_examples(self):
        self.assertEqual(pack(SMALL), (119, 99, 1, 1, 65, 0, 1, 0, 0, 0, 0, 0, 0, 2, 144))
        module = ("module", "Bus", 3, (("Purse", 1),), (), (), (), ())
        self.assertEqual(unpack(pack(module)), module)
        with self.assertRaises(BadPackage):
            unpack((119, 99, 0))

    def test_written_out(self):
        # The strings are "own", "F", "go"; the face F has the head int go(bytes, own.F).
        module = module_with(version=200, faces=(("F", (("go", (("bytes",), ("face", "own", "F")), INT),)),))
        front = [119, 99, 3, 3, 111, 119, 110, 1, 70, 2, 103, 111]
        self.assertEqual(pack(module), with_sum(front + [0, 200, 1, 0, 1, 1, 1, 2, 2, 1, 4, 0, 1, 0, 0, 0, 0]))
        # A class with a parent, a field, and the code of a method with a handler.
        module = with_code((("const", -1), ("op", "mod"), ("jump", 1), ("return",)), ((0, 2, 3),), params=(), variables=(), fields=(("class", 0),))
        front = [119, 99, 3, 3, 111, 119, 110, 1, 65, 1, 109]
        body = [0, 1, 0, 0, 1, 1, 0, 0, 1, 3, 0, 1, 2, 0, 2, 0, 1, 0, 2, 0, 2, 0, 0, 4, 0, 1, 7, 4, 9, 1, 22, 1, 0, 2, 3, 0]
        self.assertEqual(pack(module), with_sum(front + body))

    def test_every_kind_of_part(self):
        self.assertEqual(pack(MODULE), bytes_of(MODULE))
        for seed in range(60):
            module = build(Programs(seed).core(), improve=seed & 1 == 0)
            row = pack(module)
            self.assertEqual(row, bytes_of(module))
            self.assertEqual(unpack(row), module)
            self.assertTrue(all(byte.__class__ is int and 0 <= byte < 256 for byte in row))
        # All instructions, and every part that may be exchanged for another one.
        for path in paths(MODULE):
            for other in others(part_at(MODULE, path)):
                value = replaced(MODULE, path, other)
                if is_right(value):
                    self.assertEqual(pack(value), bytes_of(value))
                    self.assertEqual(unpack(pack(value)), value)
                else:
                    with self.assertRaises(BadModule):
                        pack(value)

    def test_numbers_and_words(self):
        for n in (-32768, -8193, -8192, -65, -64, -1, 0, 1, 63, 64, 8191, 8192, 32767):
            module = with_code((("const", n), ("return",)))
            self.assertEqual(pack(module), bytes_of(module))
            self.assertEqual(unpack(pack(module)), module)
        for count in (127, 128, 2000):
            module = with_code((("jump", count - 1),) * count, ((count - 2, count - 1, count - 1),))
            self.assertEqual(pack(module), bytes_of(module))
            self.assertEqual(unpack(pack(module)), module)
        # Numbers above 16383 stand for strings, if there are so many.
        face = ("face", "bank", "F")
        texts = [f"t{n}" for n in range(16500)]
        heads = [(f"m{n}", (), NOTHING) for n in range(9)]
        methods = tuple((0,) + head + ((), 0, tuple(("seek", face, text) for text in texts[2000 * n:2000 * n + 2000]), ())
                        for n, head in enumerate(heads))
        rows = tuple(head + (n,) for n, head in enumerate(heads))
        module = module_with(uses=(("bank", 1),), classes=(("A", -1, (), (), rows),), methods=methods)
        row = pack(module)
        self.assertEqual(len(parts_of(module)[0]), 16513)
        self.assertEqual(row, bytes_of(module))
        self.assertEqual(unpack(row), module)

    def test_strings_stand_once(self):
        module = module_with(name="a", uses=(("b", 1),), faces=(("b", (("a", (), ("face", "b", "a")), ("c", (), INT))),))
        self.assertEqual(parts_of(module)[0], ["a", "b", "c"])
        self.assertEqual(pack(module)[2:9], (3, 1, 97, 1, 98, 1, 99))

    def test_bad_modules(self):
        for value in ANY:
            with self.assertRaises(BadModule):
                pack(value)
        for value in (list(SMALL), SMALL[:7], SMALL + ((),), module_with(version=256), module_with(name=""), with_code(())):
            with self.assertRaises(BadModule):
                pack(value)


class UnpackTest(unittest.TestCase):
    def bad(self, row):
        with self.assertRaises(BadPackage):
            unpack(row)

    def test_any_value(self):
        for value in ANY:
            self.bad(value)
        row = pack(SMALL)
        self.bad(list(row))
        self.bad(bytes(row))
        self.bad("".join(chr(byte) for byte in row))
        for place in range(len(row)):
            for other in (True, False, 1.0, float(row[place]), None, "1", 256, -1, row[place] + 256, (row[place],), [row[place]], 10 ** 40):
                self.bad(replaced(row, (place,), other))

    def test_one_byte_changed(self):
        row = pack(SMALL)
        for place in range(len(row)):
            for byte in range(256):
                if byte != row[place]:
                    self.bad(replaced(row, (place,), byte))
        row = pack(MODULE)
        for place in range(len(row)):
            for change in (1, 2, 127, 128, 255):
                self.bad(replaced(row, (place,), (row[place] + change) % 256))

    def test_two_bytes_exchanged(self):
        for row in (pack(SMALL), pack(with_code(BACK))):
            for one in range(len(row)):
                for other in range(one):
                    if row[one] != row[other]:
                        value = list(row)
                        value[one], value[other] = row[other], row[one]
                        self.bad(tuple(value))

    def test_bytes_taken_or_added(self):
        for row in (pack(SMALL), pack(MODULE)):
            for place in range(len(row)):
                self.bad(row[:place])
                self.bad(row[place + 1:])
                self.bad(row[:place] + row[place + 1:])
            for more in ((0,), (1,), (0, 0, 0), row, (255,) * 5):
                self.bad(row + more)
                self.bad(more + row)
                self.bad(with_sum(row[:-3] + more))

    def test_other_ways_to_write(self):
        module = module_with(name="a", uses=(("b", 1),), faces=(("c", ()),))
        strings, body = parts_of(module)
        self.assertEqual(unpack(put_together(strings, body)), module)
        # Strings that are not used, that stand twice, or in another order.
        self.bad(put_together(strings + ["d"], body))
        self.bad(put_together(strings + ["a"], body))
        self.bad(put_together(["b", "a", "c"], [1] + body[1:3] + [0] + body[4:]))
        self.bad(put_together(["a", "b", "b"], body))
        self.bad(put_together(["a", "b"], body))
        self.bad(put_together(strings + [""], body))
        self.bad(put_together([], body))
        # Digits 0 at the end of a number.
        for place, byte in enumerate(body):
            self.bad(put_together(strings, body[:place] + [byte + 128, 0] + body[place + 1:]))
            self.bad(put_together(strings, body[:place] + [byte + 128, 128, 0] + body[place + 1:]))
        row = pack(module)[:-3]
        for place in range(2, 10):
            self.bad(with_sum(row[:place] + (row[place] + 128, 0) + row[place + 1:]))
            self.bad(with_sum(row[:place] + (row[place] + 128, 128, 128, 128, 0) + row[place + 1:]))
        # Another front.
        self.bad(with_sum((99, 119) + row[2:]))
        self.bad(with_sum((119, 98) + row[2:]))

    def test_right_sums_behind_no_modules(self):
        for body in ([], [0], [0, 1], [0, 1, 0, 0, 0, 0], [0, 1, 0, 0, 0, 0, 0, 0], [0, 128, 2, 0, 0, 0, 0, 0], [1, 1, 0, 0, 0, 0, 0],
                     [0, 1, 1, 0, 1, 0, 0, 0, 0], [0, 1, 1], [0, 1, 255, 255, 127], [0, 1, 0, 0, 0, 0, 1, 0]):
            self.bad(put_together(["A"], body))
        for name in ("", "1", "a b", "a" * 21, "\n", "\x00", '"', chr(37), "\x7f", "\xff"):
            self.bad(put_together([name], [0, 1, 0, 0, 0, 0, 0]))
        self.bad(with_sum([119, 99]))
        self.bad(with_sum([]))
        self.bad(with_sum([119, 99, 255, 255, 127]))
        self.bad(with_sum([119, 99, 1, 255, 255, 127]))
        chance = Random(7)
        row = pack(MODULE)[:-3]
        for _ in range(1500):
            value = list(row)
            for _ in range(chance.randint(1, 3)):
                place = chance.randrange(2, len(value))
                kind = chance.randrange(4)
                if kind == 0:
                    value[place] = chance.randrange(256)
                elif kind == 1:
                    del value[place]
                elif kind == 2:
                    value.insert(place, chance.randrange(256))
                else:
                    value[place] = (value[place] + chance.choice((1, -1))) % 256
            value = with_sum(value)
            try:
                module = unpack(value)
            except BadPackage:
                continue
            self.assertTrue(is_right(module))
            self.assertEqual(bytes_of(module), value)

    def test_signs_kinds_and_names_that_are_not_there(self):
        module = with_code((("op", ">="), ("step",)), params=(), variables=(), fields=())
        strings, body = parts_of(module)
        place = len(body) - 1 - body[::-1].index(15)
        for byte, holds in ((15, True), (14, True), (16, False), (127, False)):
            row = put_together(strings, body[:place] + [byte] + body[place + 1:])
            self.assertEqual(self.is_package(row), holds)
        place += 1
        for byte, holds in ((32, True), (31, True), (33, False), (127, False)):
            row = put_together(strings, body[:place] + [byte] + body[place + 1:])
            self.assertEqual(self.is_package(row), holds)
        module = module_with(faces=(("F", (("a", (), INT),)),))
        strings, body = parts_of(module)
        for byte, holds in ((0, True), (1, True), (2, True), (3, False), (4, False), (5, False)):
            row = put_together(strings, body[:8] + [byte] + body[9:])
            self.assertEqual(self.is_package(row), holds, (byte, body))

    def is_package(self, row):
        try:
            unpack(row)
        except BadPackage:
            return False
        return True


if __name__ == "__main__":
    unittest.main()
