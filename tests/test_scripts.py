"""Points 1301 to 1305: scripts and their runs."""

import re
import unittest
from random import Random

from values import ANY
from warycard.errors import BadScript
from warycard.scripts import parse_script, run

PERCENT = chr(37)
NEW = (((), ()), (0, 0), (None,) * 4)
# The forms of the lines, once more.
NUMBER = r"(0|[1-9][0-9]{0,3})"
BYTE = r"(?:0|[1-9][0-9]?|1[0-9][0-9]|2[0-4][0-9]|25[0-5])"
BYTES = r"(-|" + BYTE + r"(?:," + BYTE + r"){0,63})"
NAME = r"([A-Za-z][A-Za-z0-9]{0,19})"
TEXT = r'"([ !#$&-~]{1,16})"'
FORMS = (
    ("make", "make " + NAME + " " + NAME + " " + TEXT + " " + BYTES),
    ("choose", "choose " + NUMBER + " " + TEXT),
    ("send", "send " + NUMBER + " " + BYTES),
    ("drop", "drop " + TEXT),
    ("collect", "collect"),
    ("cut", "cut " + NUMBER),
    ("reset", "reset " + NUMBER),
    ("reset", "reset"),
)


def right_call(line):
    """Return the call of a line by the forms above, or None."""
    for word, form in FORMS:
        found = re.fullmatch(form, line, re.ASCII)
        if found:
            row = list(found.groups())
            if word in ("make", "send"):
                row[-1] = () if row[-1] == "-" else tuple(int(item) for item in row[-1].split(","))
            if word in ("choose", "send", "cut") or word == "reset" and row:
                row[0] = int(row[0])
            return (word,) + tuple(row) if row or word == "collect" else ("reset", None)
    return None


def call_of(line):
    try:
        found = parse_script(line)
    except BadScript as error:
        if error.line != 1:
            raise AssertionError(error.line)
        return None
    if len(found) != 1:
        raise AssertionError(found)
    return found[0]


class LinesTest(unittest.TestCase):
    def good(self, line, call):
        self.assertEqual(parse_script(line), (call,))
        self.assertEqual(right_call(line), call)

    def bad(self, line):
        self.assertIsNone(right_call(line), line)
        for ahead in range(3):
            with self.assertRaises(BadScript) as caught:
                parse_script("collect\n" * ahead + line + "\ncollect\nwrong")
            self.assertEqual(caught.exception.line, ahead + 1, line)

    def test_all_lines(self):
        self.good('make Purse Box "one" 1,20', ("make", "Purse", "Box", "one", (1, 20)))
        self.good('make if class "a b # c" -', ("make", "if", "class", "a b # c", ()))
        self.good('make a' + "b" * 19 + " " + "Z" * 20 + ' "' + "~" * 16 + '" 0', ("make", "a" + "b" * 19, "Z" * 20, "~" * 16, (0,)))
        self.good('choose 0 "one"', ("choose", 0, "one"))
        self.good('choose 9999 " "', ("choose", 9999, " "))
        self.good("send 7 -", ("send", 7, ()))
        self.good("send 10 255,0,9,10,99,100,249,250", ("send", 10, (255, 0, 9, 10, 99, 100, 249, 250)))
        self.good("send 0 " + ",".join(["255"] * 64), ("send", 0, (255,) * 64))
        self.good('drop "-"', ("drop", "-"))
        self.good('drop "  x  "', ("drop", "  x  "))
        self.good("collect", ("collect",))
        self.good("cut 0", ("cut", 0))
        self.good("cut 1000", ("cut", 1000))
        self.good("reset", ("reset", None))
        self.good("reset 0", ("reset", 0))
        self.good("reset 9999", ("reset", 9999))

    def test_numbers(self):
        for number in ("10000", "00", "01", "007", "-1", "+1", "1.0", "0x1", "1_0", "", "a", "1a", "9" * 5000, " 1", "1,2", "-", '"1"', "\u0661", "\u00b2"):
            for line in ("cut X", "reset X", "send X -", 'choose X "one"'):
                if line != "reset X" or number != "":
                    self.bad(line.replace("X", number))
        self.bad("reset ")

    def test_bytes(self):
        for row in ("256", "1000", "-1", "01", "00", "1,", ",1", ",", "1,,2", "1, 2", "1 ,2", "1 2", "--", "-,1", "1,-", "", "a", "(1)", '"1"',
                    ",".join(["0"] * 65), "\u0661"):
            self.bad("send 0 " + row)
            self.bad('make P C "n" ' + row)
        self.bad("send 0")
        self.bad('make P C "n"')

    def test_texts(self):
        for text in ("", "x" * 17, "a\tb", "a\u00e9", "a" + PERCENT, "a\x7f", '"', 'a"b'):
            self.bad(f'drop "{text}"')
            self.bad(f'choose 0 "{text}"')
            self.bad(f'make P C "{text}" -')
        for line in ("drop one", 'drop "one', 'drop one"', "drop 'one'", 'drop ""one""', 'drop "one" "two"', 'drop"one"', 'drop "one"x', 'drop x"one"',
                     'choose 0"one"', 'make P C"n" -', 'make P C "n"-', 'make P C n -', 'make P C "n" "-"', '"drop" "one"', '"one"', 'choose "0" "one"',
                     'make "P" C "n" -', 'make P "C" "n" -', 'choose "one" 0'):
            self.bad(line)

    def test_names(self):
        for name in ("", "1a", "a_b", "a-b", "x" * 21, "\u00e9", "a.b", "7"):
            self.bad(f'make {name} C "n" -')
            self.bad(f'make P {name} "n" -')

    def test_spaces_and_words(self):
        lines = ('make P C "n" 1,2', 'choose 0 "n"', "send 0 -", 'drop "n"', "collect", "cut 3", "reset 3", "reset")
        for line in lines:
            self.bad(" " + line)
            self.bad(line + " ")
            self.bad(line + "\t")
            self.bad(line + "\r")
            self.bad(line + " x")
            self.bad(line.upper())
            self.bad("x" + line)
            places = [place for place, letter in enumerate(line) if letter == " "]
            for place in places:
                self.bad(line[:place] + " " + line[place:])
                self.bad(line[:place] + "\t" + line[place + 1:])
                if line[:place] + line[place + 1:] not in ("reset3",):
                    self.bad(line[:place] + line[place + 1:])
            word, *parts = line.split(" ")
            for number in range(len(parts)):
                other = " ".join([word] + parts[:number] + parts[number + 1:])
                if other != "reset":
                    self.bad(other)
        for line in (" ", "end", "load x", "load ", " load", "Load", "loads", "endload", "make", "\t", "\x00", "//", " #", "collect # now"):
            self.bad(line)

    def test_lines_that_were_changed(self):
        """Lines with letters that were put in, left out or exchanged are what the forms above say."""
        lines = ('make Purse Box "one two" 1,20,255', 'choose 3 "one"', "send 10 7,0", 'drop "bus pass"', "collect", "cut 9999", "reset 120", "reset")
        letters = ' "",,--0129azAZ#~' + PERCENT + "\t_"
        good = 0
        for seed in range(6000):
            chance = Random(seed)
            line = chance.choice(lines)
            for _ in range(chance.randint(1, 3)):
                place = chance.randrange(len(line) + 1)
                line = line[:place] + chance.choice(letters) * chance.randint(0, 1) + line[place + chance.randint(0, 1):]
            if line and not line.startswith("#") and line != "load":
                self.assertEqual(call_of(line), right_call(line), line)
                good += right_call(line) is not None
        self.assertGreater(good, 500)


class ScriptsTest(unittest.TestCase):
    def line(self, text):
        with self.assertRaises(BadScript) as caught:
            parse_script(text)
        self.assertIsInstance(caught.exception.reason, str)
        return caught.exception.line

    def test_lines_that_are_skipped(self):
        self.assertEqual(parse_script(""), ())
        self.assertEqual(parse_script("\n"), ())
        self.assertEqual(parse_script("\n\n# load\n#\n##\n"), ())
        self.assertEqual(parse_script("# x \x00 \u00e9\n\ncollect\n\n#\ncut 1\n\n"), (("collect",), ("cut", 1)))

    def test_loads(self):
        for rows in ([], [""], ["", ""], ["package p 1;"], ["a", "", "b"], ["# x", "load", " end", "end ", "END", "ends", "\x00\u00e9\r", "collect"]):
            source = "".join(row + "\n" for row in rows)
            text = "load\n" + source + "end"
            self.assertEqual(parse_script(text), (("load", source),))
            self.assertEqual(parse_script("\n#\n" + text + "\ncollect\n" + text + "\n"), (("load", source), ("collect",), ("load", source)))

    def test_loads_without_an_end(self):
        self.assertEqual(self.line("load"), 1)
        self.assertEqual(self.line("load\n"), 1)
        self.assertEqual(self.line("collect\n\nload\npackage p 1;\nload\n end\nend "), 3)
        self.assertEqual(self.line("load\nend\nload\n"), 3)
        self.assertEqual(self.line("load\nend\nend"), 3)
        # A wrong line ahead of it comes first; those in it are no lines of the script.
        self.assertEqual(self.line("collect\nwrong\nload\n"), 2)
        self.assertEqual(self.line("load\nwrong\n"), 1)
        self.assertEqual(self.line("load\nwrong\nend\nwrong"), 4)

    def test_lines_are_counted(self):
        for ahead in range(5):
            self.assertEqual(self.line("\n" * ahead + "wrong\nwrong"), ahead + 1)
            self.assertEqual(self.line("load\n" + "x\n" * ahead + "end\nwrong"), ahead + 3)
        for letter in "\r\x0b\x0c\x1c\x85\u2028":
            self.assertEqual(self.line("collect" + letter + "collect"), 1)
            self.assertEqual(parse_script("#" + letter + "wrong"), ())

    def test_values_that_are_no_strings(self):
        for value in ANY:
            if not isinstance(value, str):
                self.assertEqual(self.line(value), 0)
        for value in ANY:
            if isinstance(value, str) and value not in ("", "\n"):
                self.assertEqual(self.line(value), 1)


BANK = "package bank 1; face Pay { int pay(int n); }\n"
SHOP = """package shop 2; use bank 1;
class Shop has bank.Pay { field int n; nothing made(int k) { } int pay(int n) { return n; }
int process(int k) { this.n = this.n + k; buffer[0] = this.n; return 1; } }
applet Shop;
"""


class RunTest(unittest.TestCase):
    def run_text(self, text):
        return run(parse_script(text))

    def test_the_examples(self):
        self.assertEqual(self.run_text("send 0 -\ncollect"), ((("refused", "empty"), NEW), (("ok",), NEW)))
        self.assertEqual(run(()), ())

    def test_a_run(self):
        text = f"load\n{BANK}end\nload\n{SHOP}end\n" + 'make shop Shop "one" -\nchoose 2 "one"\nsend 2 9,9\nreset\ndrop "one"\ncollect\n'
        state = (((1, "one", 0),), ((("class", "shop", "Shop"), 1, (0,)),))
        later = (state[0], ((("class", "shop", "Shop"), 1, (2,)),))
        on = (None, None, "one", None)
        self.assertEqual(self.run_text(text), (
            (("ok",), NEW), (("ok",), NEW), (("ok",), (state, (4, 1), (None,) * 4)), (("ok",), (state, (4, 1), on)),
            (("ok", (2,)), (later, (4, 1), on)), (None, (later, (4, 1), (None,) * 4)), (("ok",), (((), ()), (4, 1), (None,) * 4)),
            (("ok",), NEW),
        ))

    def answers(self, calls):
        return [entry[0] for entry in run(tuple(calls))]

    def test_loads(self):
        ok = ("ok",)
        for source in ("", "package", "package p 256;", "package p 1; class C { int m() { return 1; }", "\x00", "x" * 20001):
            self.assertEqual(self.answers([("load", source)]), [("refused", "source")])
        for source in ("package p 1; use none 1;", "package p 1; class A of B { }", "package p 1; class A { int m() { } }",
                       "package p 1; applet A;"):
            self.assertEqual(self.answers([("load", source)]), [("refused", "program")])
        # A package may use those that were loaded, with their versions.
        self.assertEqual(self.answers([("load", SHOP), ("load", BANK), ("load", SHOP), ("load", SHOP), ("load", BANK)]),
                         [("refused", "program"), ok, ok, ("refused", "twice"), ("refused", "twice")])
        self.assertEqual(self.answers([("load", BANK.replace("1", "2")), ("load", SHOP)]), [ok, ("refused", "program")])
        # Of two packages with one name the first one is there.
        other = BANK.replace("int pay(int n)", "int buy(int n)")
        self.assertEqual(self.answers([("load", BANK), ("load", other), ("load", SHOP)]), [ok, ("refused", "twice"), ok])
        self.assertEqual(self.answers([("load", other), ("load", BANK), ("load", SHOP)]), [ok, ("refused", "twice"), ("refused", "program")])
        wrong = SHOP.replace("int process", "int m(bank.Pay p) { return p.pay(1); } int process")
        self.assertEqual(self.answers([("load", BANK), ("load", other), ("load", wrong)])[2], ok)

    def test_the_power(self):
        calls = [("load", BANK), ("load", SHOP), ("make", "shop", "Shop", "one", ()), ("choose", 0, "one"), ("cut", 0), ("send", 0, ()),
                 ("load", BANK), ("load", "wrong"), ("load", "package p 1; use q 1;"), ("make", "", "", "", ()), ("choose", 9, "x"), ("send", 9, ()),
                 ("drop", "x"), ("collect",), ("cut", 3), ("reset", 0), ("collect",), ("collect",), ("reset", None), ("collect",)]
        told = run(tuple(calls))
        off = ("off",)
        self.assertEqual([entry[0] for entry in told[4:]], [None] + [off] * 9 + [None, None, off, off, None, ("ok",)])
        self.assertEqual([entry[1] is None for entry in told[4:]], [False] + [True] * 10 + [False, True, True, False, False])
        self.assertEqual(told[15][1][2], (None,) * 4)

    def test_a_reset_whose_power_fails(self):
        change = SHOP.replace("this.n = this.n + k;", "begin; this.n = this.n + k; commit;")
        calls = [("load", BANK), ("load", change), ("make", "shop", "Shop", "one", ()), ("choose", 0, "one"), ("cut", 4), ("send", 0, (1,)),
                 ("reset", 0), ("reset", 1), ("reset", 0), ("reset", 9)]
        told = run(tuple(calls))
        self.assertEqual(told[5:9], ((("off",), None),) + ((None, None),) * 3)
        self.assertEqual(told[9], (None, told[2][1]))

    def test_needless_looks_are_left_out(self):
        """A run is that of a card with needless looks; this is seen by nothing but the number of looks."""
        calls = [("load", BANK), ("load", SHOP), ("make", "shop", "Shop", "one", ()), ("choose", 0, "one"), ("send", 0, (1, 2, 3))]
        self.assertEqual(self.answers(calls)[-1], ("ok", (3,)))


if __name__ == "__main__":
    unittest.main()
