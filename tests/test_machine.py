"""Points 1100 to 1105: the machine."""

import unittest

from codebundle import world_of
from warycard.cells import Cells
from warycard.errors import Fault, PowerCut, StepsGone
from warycard.heap import BUFFER, BYTES as BYTES_KIND, HEAP_CELLS, TEMP, Heap
from warycard.journal import JOURNAL_CELLS, Journal
from warycard.limits import DEPTH, DIVIDED, KIND, LOOK, NULL, PLACE, ROOM, SIZE, STEPS, TRANSACTION
from warycard.machine import Machine
from warycard.modules import is_module
from warycard.trying import try_module

INT, BYTES, NOTHING = ("int",), ("bytes",), ("nothing",)
A, B, D = ("class", 0), ("class", 1), ("class", 2)
F, G, PAY = ("face", "own", "F"), ("face", "own", "G"), ("face", "bank", "Pay")
BACK, GIVE = ("return",), ("returnv",)
# The class Till of the bank has both faces; its methods pay and peer stand in another order than in the face Ask.
BANK = ("module", "bank", 2, (), (("Pay", (("pay", (INT,), INT), ("peer", (), PAY))), ("Ask", (("peer", (), PAY), ("pay", (INT,), INT)))), (
    ("Till", -1, (PAY, ("face", "bank", "Ask")), (INT,), (("pay", (INT,), INT, 0), ("peer", (), PAY, 1))),
), (
    # What it returns is greater by its field than its argument.
    (0, "pay", (INT,), INT, (), 2, (("load", 0), ("get", 0, 0), ("load", 1), ("op", "+"), GIVE), ()),
    (0, "peer", (), PAY, (), 1, (("load", 0), GIVE), ()),
), ())
# The fields of the class A, and those of B.
FIELDS = (INT, BYTES, A, F, PAY)
N, ROW, OTHER, FACE, TILL = range(5)
HELP = ("help", (INT, INT), INT)
QUIET = ("quiet", (), NOTHING)
M = ("m", (INT,), INT)
# The rows of the table of class A.
RUN, HELPS, QUIETS = range(3)
# The slots of the method m behind its argument.
VARIABLES = (INT, BYTES, A, F, INT)
FIRST = 2


def own(code, handlers=(), help_code=None, quiet_code=(BACK,), help_handlers=(), b_code=None):
    """Return the module with the method m of class A, which B defines anew; class D has no parent."""
    help_code = help_code or (("load", 1), ("load", 2), ("op", "-"), GIVE)
    rows = (M + (0,), HELP + (1,), QUIET + (2,))
    classes = (
        ("A", -1, (F,), FIELDS, rows),
        ("B", 0, (G,), FIELDS + (INT,), (M + (3,), HELP + (4,), QUIET + (2,))),
        ("D", -1, (F,), (INT,), (HELP + (5,), M + (6,))),
    )
    methods = (
        (0,) + M + (VARIABLES, 300, tuple(code), tuple(handlers)),
        (0,) + HELP + ((INT, BYTES), 9, tuple(help_code), tuple(help_handlers)),
        (0,) + QUIET + ((INT,), 9, tuple(quiet_code), ()),
        (1,) + M + ((), 9, tuple(b_code or (("const", 77), GIVE)), ()),
        (1,) + HELP + ((), 9, (("load", 0), ("get", 1, 5), ("load", 1), ("op", "*"), ("load", 2), ("op", "+"), GIVE), ()),
        (2,) + HELP + ((), 9, (("const", -7), GIVE), ()),
        (2,) + M + ((), 9, (("load", 0), ("get", 2, 0), GIVE), ()),
    )
    faces = (("F", (HELP,)), ("G", (QUIET, M)))
    return ("module", "own", 1, (("bank", 2),), faces, classes, methods, ())


class MachineCase(unittest.TestCase):
    def ready(self, code, needless=None, **parts):
        """Begin anew with a module; the object 1 is of class A and of owner 1."""
        module = own(code, **parts)
        self.assertTrue(is_module(module), code)
        self.world = world_of(BANK, module)
        for one in (BANK, module):
            try_module(self.world, one)
        self.cells = Cells(JOURNAL_CELLS + HEAP_CELLS)
        self.journal = Journal(self.cells, 0)
        self.heap = Heap(self.cells, self.journal, JOURNAL_CELLS)
        self.applets = {}
        self.asked = []
        self.machine = Machine(self.world, self.heap, self.journal, self.seek, needless or {})
        self.one = self.make("own", 0, 1)

    def seek(self, name):
        self.asked.append(name)
        return self.applets.get(name, 0)

    def make(self, package, k, owner):
        g = self.world.number(package, k)
        return self.heap.make(g, owner, len(self.world.fields(g)))

    def run_it(self, value=0):
        """Return what a run returns, or a tuple that tells how it ends."""
        try:
            return self.machine.run(self.one, "m", value)
        except Fault as fault:
            return ("fault", fault.code)
        except StepsGone:
            return "gone"
        except PowerCut:
            return "cut"

    def result(self, code, value=0, **parts):
        self.ready(code, **parts)
        return self.run_it(value)

    def value(self, *code):
        """Return the integer that a code puts."""
        return self.result(code + (GIVE,))

    def fault(self, code, *instructions):
        """Some instructions, behind which the stack is empty, end in a fault."""
        self.assertEqual(self.result(instructions + (("const", 5), GIVE)), ("fault", code), instructions)

    def fails(self, code):
        return ("fault", code)


class InstructionsTest(MachineCase):
    def test_integers(self):
        for n in (0, 5, -32768, 32767, 61):
            self.assertEqual(self.value(("const", n)), n)
            self.assertEqual(self.value(("const", n), ("neg",)), -n if n != -32768 else -32768)
            self.assertEqual(self.value(("const", n), ("not",)), int(n == 0))
        for sign, left, right, worth in (("+", 32767, 1, -32768), ("-", 3, 5, -2), ("/", -7, 2, -3), ("mod", -7, 2, -1), ("<", 1, 2, 1),
                                         ("<", 2, 1, 0), ("<<", 1, 17, 2), ("/", -32768, -1, -32768)):
            self.assertEqual(self.value(("const", left), ("const", right), ("op", sign)), worth)
        for sign in ("/", "mod"):
            self.fault(DIVIDED, ("const", 3), ("const", 0), ("op", sign), ("pop",))
        self.assertEqual(self.value(("null",), ("null",), ("same",)), 1)
        self.assertEqual(self.value(("null",), ("load", 0), ("same",)), 0)
        self.assertEqual(self.value(("load", 0), ("load", 0), ("same",)), 1)
        self.assertEqual(self.value(("buffer",), ("buffer",), ("same",)), 1)
        self.assertEqual(self.value(("new", 0), ("new", 0), ("same",)), 0)

    def test_slots(self):
        self.assertEqual(self.result((("load", 1), GIVE), 7), 7)
        self.assertEqual(self.result((("const", 3), ("store", FIRST), ("const", 4), ("store", 1), ("load", FIRST), ("load", 1), ("op", "-"), GIVE)), -1)
        # All others hold 0, which is also null.
        self.assertEqual(self.value(("load", FIRST)), 0)
        for slot in (FIRST + 1, FIRST + 2, FIRST + 3):
            self.assertEqual(self.value(("load", slot), ("null",), ("same",)), 1)
        self.assertEqual(self.value(("const", 1), ("const", 2), ("pop",)), 1)

    def test_jumps(self):
        # The place to which the jump leads returns 1, the next one 2.
        for word, n, taken in (("jumpif", 5, True), ("jumpif", 0, False), ("jumpnot", 0, True), ("jumpnot", -1, False)):
            code = (("const", n), (word, 4), ("const", 2), GIVE, ("const", 1), GIVE)
            self.assertEqual(self.result(code), 1 if taken else 2)
        self.assertEqual(self.result((("jump", 3), ("const", 2), GIVE, ("const", 1), GIVE)), 1)

    def test_fields(self):
        self.assertEqual(self.value(("load", 0), ("const", -9), ("put", 0, N), ("load", 0), ("get", 0, N)), -9)
        self.assertEqual(self.value(("load", 0), ("load", 0), ("put", 0, OTHER), ("load", 0), ("get", 0, OTHER), ("load", 0), ("same",)), 1)
        self.assertEqual(self.value(("new", 1), ("const", 4), ("put", 1, 5), ("const", 1)), 1)
        self.assertEqual(self.heap.read(2, 5), 4)
        self.fault(NULL, ("null",), ("get", 0, N), ("pop",))
        self.fault(NULL, ("null",), ("const", 1), ("put", 0, N))
        # Null comes ahead of the buffer.
        self.fault(NULL, ("null",), ("buffer",), ("put", 0, ROW))
        self.fault(LOOK, ("load", 0), ("buffer",), ("put", 0, ROW))
        self.assertEqual(self.heap.read(1, ROW), 0)
        # An integer may be the number of the buffer.
        self.assertEqual(self.value(("load", 0), ("const", BUFFER), ("put", 0, N), ("load", 0), ("get", 0, N)), BUFFER)
        self.assertEqual(self.value(("load", 0), ("null",), ("put", 0, ROW), ("const", 1)), 1)
        self.assertEqual(self.heap.read(1, N), 0)

    def foreign(self, k_field, number_of):
        """Let a field of the object refer to an object of the owner 2."""
        self.heap.write(self.one, k_field, number_of())

    def test_bytes(self):
        three = (("const", 3), ("bytes",), ("store", FIRST + 1))
        load = ("load", FIRST + 1)
        self.assertEqual(self.value(*three, load, ("const", 2), ("const", 300), ("setat",), load, ("const", 2), ("at",)), 44)
        self.assertEqual(self.value(*three, load, ("const", 0), ("const", -1), ("setat",), load, ("const", 0), ("at",)), 255)
        self.assertEqual(self.value(*three, load, ("size",)), 3)
        self.assertEqual(self.value(("const", 0), ("temp",), ("size",)), 0)
        self.assertEqual(self.value(("buffer",), ("size",)), 64)
        for place in (-1, 3, 32767):
            self.fault(PLACE, *three, load, ("const", place), ("at",), ("pop",))
            self.fault(PLACE, *three, load, ("const", place), ("const", 1), ("setat",))
        self.fault(PLACE, ("buffer",), ("const", 64), ("at",), ("pop",))
        for place in (0, -1):
            self.fault(NULL, ("null",), ("const", place), ("at",), ("pop",))
            self.fault(NULL, ("null",), ("const", place), ("const", 1), ("setat",))
        self.fault(NULL, ("null",), ("size",), ("pop",))

    def test_bytes_of_another_owner(self):
        row = (("load", 0), ("get", 0, ROW))
        for kind in (BYTES_KIND, TEMP):
            # The look comes ahead of the place.
            for place in (0, 9):
                for code in ((("const", place), ("at",), ("pop",)), (("const", place), ("const", 1), ("setat",)), (("size",), ("pop",))):
                    self.ready(row + code + (("const", 1), GIVE))
                    self.foreign(ROW, lambda: self.heap.make(kind, 2, 3))
                    self.assertEqual(self.run_it(), self.fails(LOOK))
                    self.assertEqual([self.heap.read(2, step) for step in range(3)], [0, 0, 0])
                    self.assertEqual(self.machine.looks(), 1)

    def test_new(self):
        self.assertEqual(self.value(("const", 8), ("bytes",), ("pop",), ("const", 5), ("temp",), ("pop",), ("new", 1), ("pop",), ("const", 1)), 1)
        found = [(self.heap.kind(number), self.heap.owner(number), self.heap.size(number)) for number in self.heap.numbers()]
        self.assertEqual(found, [(1, 1, 5), (BYTES_KIND, 1, 8), (TEMP, 1, 5), (2, 1, 6)])
        for size in (-1, 65, -32768):
            for word in ("bytes", "temp"):
                self.fault(SIZE, ("const", size), (word,), ("pop",))
        for size in (0, 64):
            for word in ("bytes", "temp"):
                self.assertEqual(self.value(("const", size), (word,), ("size",)), size)
        sixty = (("step",), ("load", 1), ("const", 1), ("op", "+"), ("store", 1)) + 2 * (("const", 0), ("bytes",), ("pop",))
        self.assertEqual(self.result(sixty + (("jump", 0),)), self.fails(ROOM))
        self.assertEqual(self.heap.used(), (185, 60))
        self.fault(ROOM, *(("const", 64), ("temp",), ("pop",)) * 7)
        # The size comes ahead of the room.
        self.fault(SIZE, *(("const", 62), ("temp",), ("pop",)) * 6, ("const", 65), ("bytes",), ("pop",))
        self.fault(ROOM, *(("const", 62), ("temp",), ("pop",)) * 6, ("new", 0), ("pop",))
        self.assertEqual(self.heap.used()[1], 7)

    def test_is_and_as(self):
        for kind, made, right in ((A, 0, 1), (A, 1, 1), (B, 0, 0), (B, 1, 1), (D, 1, 0), (F, 0, 1), (G, 0, 0), (G, 1, 1), (F, 2, 1), (PAY, 0, 0)):
            self.assertEqual(self.value(("new", made), ("is", kind)), right)
            code = (("new", made), ("as", kind), ("pop",), ("const", 1), GIVE)
            self.assertEqual(self.result(code), 1 if right else self.fails(KIND))
        for kind in (A, F, PAY):
            self.assertEqual(self.value(("null",), ("is", kind)), 0)
            self.assertEqual(self.value(("null",), ("as", kind), ("null",), ("same",)), 1)
            self.assertEqual(self.machine.looks(), 0)
        self.assertEqual(self.value(("load", 0), ("as", F), ("load", 0), ("same",)), 1)

    def test_is_and_as_of_another_owner(self):
        for word, kind, end in (("is", A, LOOK), ("is", B, LOOK), ("as", A, LOOK), ("as", D, LOOK), ("is", F, 1), ("as", F, 1),
                                ("is", G, 0), ("as", G, KIND), ("as", PAY, KIND), ("is", PAY, 0)):
            put = ("store", FIRST) if word == "is" else ("pop",)
            end_code = ("load", FIRST) if word == "is" else ("const", 1)
            self.ready((("load", 0), ("get", 0, FACE), (word, kind), put, end_code, GIVE))
            self.foreign(FACE, lambda: self.make("own", 0, 2))
            self.assertEqual(self.run_it(), self.fails(end) if end < 0 else end)
            self.assertEqual(self.machine.looks(), int(kind[0] == "class"))

    def test_seek(self):
        code = (("seek", PAY, "bus pass"), ("null",), ("same",), ("seek", F, "me"), ("load", 0), ("same",), ("op", "+"), GIVE)
        self.assertEqual(self.result(code), 1)
        self.assertEqual(self.asked, ["bus pass", "me"])
        self.applets.update({"bus pass": self.make("bank", 0, 2), "me": self.one})
        self.assertEqual(self.run_it(), 1)
        # An applet of another kind is not found.
        self.applets.update({"bus pass": self.one, "me": self.heap.make(self.world.number("bank", 0), 1, 1)})
        self.assertEqual(self.run_it(), 1)
        self.assertEqual(self.machine.looks(), 0)

    def test_the_buffer(self):
        code = (("buffer",), ("const", 1), ("buffer",), ("const", 0), ("at",), ("setat",), ("buffer",), ("const", 1), ("at",), GIVE)
        self.ready(code)
        self.heap.fill((9, 2))
        self.assertEqual(self.run_it(), 9)
        self.assertEqual(self.heap.read(BUFFER, 1), 9)
        self.assertEqual(self.machine.looks(), 3)

    def test_throw(self):
        for n in (0, 7, -1, -10, 32767):
            self.assertEqual(self.result((("const", n), ("throw",))), self.fails(n))


class TransactionsTest(MachineCase):
    put = (("load", 0), ("load", 0), ("get", 0, N), ("const", 1), ("op", "+"), ("put", 0, N))

    def test_faults(self):
        for word in ("commit", "abort"):
            self.fault(TRANSACTION, (word,))
            self.fault(TRANSACTION, ("begin",), (word,), (word,))
        self.fault(TRANSACTION, ("begin",), ("begin",))

    def test_commit_and_abort(self):
        for word, right in (("commit", 3), ("abort", 1)):
            code = self.put + (("begin",),) + self.put * 2 + ((word,), ("load", 0), ("get", 0, N), GIVE)
            self.assertEqual(self.result(code), right)
            self.assertFalse(self.journal.is_open())

    def test_entries(self):
        code = (("begin",),) + self.put * 40 + (("load", 0), ("get", 0, N), GIVE)
        self.assertEqual(self.result(code), 40)
        code = (("begin",),) + self.put * 41 + (("const", 1), GIVE)
        self.assertEqual(self.result(code), self.fails(TRANSACTION))
        self.assertEqual(self.heap.read(1, N), 40)
        # Values of the kind temp are not noted.
        temp = (("const", 1), ("temp",), ("store", FIRST + 1), ("begin",))
        code = temp + (("load", FIRST + 1), ("const", 0), ("const", 1), ("setat",)) * 50 + (("const", 1), GIVE)
        self.assertEqual(self.result(code), 1)

    def test_a_transaction_that_is_open_at_the_end(self):
        for end in ((("const", 5), GIVE), (("const", 5), ("throw",)), (("step",), ("jump", 7))):
            code = (("begin",),) + self.put + end
            self.result(code)
            self.assertTrue(self.journal.is_open())
            self.assertEqual(self.heap.read(1, N), 1)
            self.assertEqual(self.run_it(), self.fails(TRANSACTION))
            self.journal.put_back()
            self.assertEqual(self.heap.read(1, N), 0)


class CallsTest(MachineCase):
    def test_args_and_results(self):
        call = (("load", 0), ("const", 9), ("const", 2), ("callc", 0, HELPS))
        self.assertEqual(self.result(call + (GIVE,)), 7)
        # What lies below on the stack stays there, and nothing is put behind a call without a result.
        code = (("const", 100),) + call + (("load", 0), ("callc", 0, QUIETS), ("op", "+"), GIVE)
        self.assertEqual(self.result(code), 107)
        # The slots of a method are its own, and hold 0 at first in each call.
        help_code = (("load", 3), ("load", 1), ("store", 3), ("load", 2), ("store", 1), GIVE)
        code = (("const", 8), ("store", FIRST)) + call + (("pop",),) + call + (("load", FIRST), ("op", "+"), GIVE)
        self.assertEqual(self.result(code, help_code=help_code), 8)
        # A run of a method without a result.
        self.ready((("const", 1), GIVE))
        self.assertIsNone(self.machine.run(self.quiet_one(), "go", 4))

    def quiet_one(self):
        """Return an object whose method go has one param and no result."""
        head = ("go", (INT,), NOTHING)
        module = ("module", "quiet", 1, (), (), (("Q", -1, (), (INT,), (head + (0,),)),),
                  ((0,) + head + ((), 2, (("load", 0), ("load", 1), ("put", 0, 0), BACK), ()),), ())
        self.world.add(module)
        number = self.make("quiet", 0, 3)
        self.machine.run(number, "go", 12)
        self.assertEqual(self.heap.read(number, 0), 12)
        return number

    def test_the_methods_of_the_class_of_the_object(self):
        # B defines help and m anew, and keeps quiet.
        new = (("new", 1), ("store", FIRST + 2), ("load", FIRST + 2), ("as", B), ("const", 10), ("put", 1, 5), ("load", FIRST + 2))
        self.assertEqual(self.result(new + (("const", 4), ("const", 2), ("callc", 0, HELPS), GIVE)), 42)
        self.assertEqual(self.result(new + (("const", 4), ("callc", 0, RUN), GIVE)), 77)
        self.assertEqual(self.result(new + (("callc", 0, QUIETS), ("const", 3), GIVE)), 3)
        # Through a face: D has its rows in another order, and not as A has them.
        self.assertEqual(self.result(new + (("const", 4), ("const", 2), ("callf", "own", "F", 0), GIVE)), 42)
        self.assertEqual(self.result((("new", 2), ("const", 4), ("const", 2), ("callf", "own", "F", 0), GIVE)), -7)
        self.assertEqual(self.result(new + (("as", B), ("const", 1), ("callf", "own", "G", 1), GIVE)), 77)
        self.assertEqual(self.machine.run(self.make("own", 2, 1), "m", 3), 0)
        self.assertEqual(self.machine.run(self.make("own", 1, 1), "m", 3), 77)

    def test_faces_of_another_package(self):
        till = (("load", 0), ("get", 0, TILL))
        code = till + (("callf", "bank", "Pay", 1), ("const", 5), ("callf", "bank", "Pay", 0), GIVE)
        self.ready(code)
        number = self.make("bank", 0, 2)
        self.heap.write(self.one, TILL, number)
        self.heap.write(number, 0, 300)
        self.assertEqual(self.run_it(), 305)
        code = till + (("as", ("face", "bank", "Ask")), ("const", 5), ("callf", "bank", "Ask", 1), GIVE)
        self.ready(code)
        number = self.make("bank", 0, 2)
        self.heap.write(self.one, TILL, number)
        self.heap.write(number, 0, 40)
        self.assertEqual(self.run_it(), 45)

    def test_null(self):
        self.fault(NULL, ("null",), ("const", 1), ("const", 2), ("callc", 0, HELPS), ("pop",))
        self.fault(NULL, ("null",), ("const", 1), ("const", 2), ("callf", "own", "F", 0), ("pop",))
        # It comes ahead of the step, and that one ahead of the depth.
        steps = (("step",),) * 1000
        self.assertEqual(self.result(steps + (("null",), ("callc", 0, QUIETS), ("const", 1), GIVE)), self.fails(NULL))
        self.assertEqual(self.result(steps + (("load", 0), ("callc", 0, QUIETS), ("const", 1), GIVE)), "gone")

    def test_the_owner_for_whom_code_runs(self):
        """A method runs for the owner of its object: what it makes is his, and it looks at his."""
        code = (("load", 0), ("get", 0, OTHER), ("callc", 0, QUIETS), ("const", 1), GIVE)
        quiet = (("load", 0), ("const", 1), ("bytes",), ("put", 0, ROW), ("load", 0), ("get", 0, ROW), ("size",), ("pop",), BACK)
        self.ready(code, quiet_code=quiet)
        other = self.make("own", 0, 5)
        self.heap.write(self.one, OTHER, other)
        self.assertEqual(self.run_it(), 1)
        self.assertEqual(self.heap.owner(self.heap.read(other, ROW)), 5)
        # And behind the call the code runs for the first owner again.
        code = (("load", 0), ("get", 0, OTHER), ("callc", 0, QUIETS), ("const", 2), ("bytes",), ("size",), GIVE)
        self.ready(code, quiet_code=quiet)
        self.heap.write(self.one, OTHER, self.make("own", 0, 5))
        self.assertEqual(self.run_it(), 2)
        self.assertEqual([self.heap.owner(number) for number in self.heap.numbers()], [1, 5, 5, 1])
        code = code[:3] + (("load", 0), ("get", 0, OTHER), ("get", 0, ROW), ("size",), GIVE)
        self.ready(code, quiet_code=quiet)
        self.heap.write(self.one, OTHER, self.make("own", 0, 5))
        self.assertEqual(self.run_it(), self.fails(LOOK))

    def deep(self, end=(("const", 5), GIVE)):
        """A method that calls itself with an argument that is less by 1, up to 0."""
        return (("load", 1), ("jumpnot", 8), ("load", 0), ("load", 1), ("const", 1), ("op", "-"), ("callc", 0, RUN), GIVE) + tuple(end)

    def test_depth(self):
        for n in range(12):
            self.assertEqual(self.result(self.deep(), n), 5 if n < 8 else self.fails(DEPTH))
        # A frame is left by a return and by a fault.
        self.ready(self.deep((("const", 3), ("throw",))))
        for _ in range(3):
            self.assertEqual(self.run_it(7), self.fails(3))
            self.assertEqual(self.run_it(8), self.fails(DEPTH))
        code = ((("load", 0), ("callc", 0, QUIETS)) * 20) + (("const", 1), GIVE)
        self.assertEqual(self.result(code), 1)
        # The step of the call that is too deep was made.
        for steps, end in ((992, self.fails(DEPTH)), (993, "gone")):
            ahead = (("load", 1), ("const", 8), ("op", "=="), ("jumpnot", 4 + steps)) + (("step",),) * steps
            body = tuple((line[0], line[1] + len(ahead)) if line[0].startswith("jump") else line for line in self.deep())
            self.assertEqual(self.result(ahead + body, 8), end)

    def test_steps(self):
        for steps, end in ((999, 1), (1000, 1), (1001, "gone")):
            self.assertEqual(self.result((("step",),) * steps + (("const", 1), GIVE)), end)
        ring = (("step",), ("jump", 0))
        self.ready(ring)
        self.assertEqual([self.run_it(), self.run_it()], ["gone", "gone"])
        # Each run begins without steps.
        self.ready((("step",),) * 600 + (("const", 1), GIVE))
        self.assertEqual([self.run_it(), self.run_it()], [1, 1])
        # Calls and steps of called methods count.
        code = (("load", 0), ("callc", 0, QUIETS), ("load", 0), ("callc", 0, QUIETS), ("const", 1), GIVE)
        self.assertEqual(self.result(code, quiet_code=(("step",),) * 499 + (BACK,)), 1)
        self.assertEqual(self.result(code, quiet_code=(("step",),) * 499 + (("step",), BACK)), "gone")


class FaultsTest(MachineCase):
    def test_the_handler_that_takes_a_fault(self):
        # The fault arises at the place 2; what a handler returns is the fault and a number of its own.
        code = [("const", 1), ("const", 0), ("op", "/"), GIVE]
        ends = []
        for n in (10, 20, 30):
            ends += [("const", n), ("op", "+"), GIVE]
        rows = {4: DIVIDED + 10, 7: DIVIDED + 20, 10: DIVIDED + 30}
        for handlers, at in ((((0, 3, 4),), 4), (((2, 3, 4),), 4), (((0, 2, 4),), None), (((3, 4, 4),), None), ((), None),
                             (((0, 2, 4), (2, 3, 7)), 7), (((0, 4, 10), (2, 3, 7)), 10), (((3, 4, 4), (1, 3, 7), (0, 3, 10)), 7)):
            right = self.fails(DIVIDED) if at is None else rows[at]
            self.assertEqual(self.result(code + ends, handlers=handlers), right, handlers)

    def test_the_stack_becomes_the_fault_alone(self):
        code = (("const", 1), ("const", 2), ("const", 3), ("const", 4), ("throw",), GIVE)
        self.assertEqual(self.result(code, handlers=((4, 5, 5),)), 4)
        # The slots keep what they held.
        code = (("const", 9), ("store", FIRST), ("const", 4), ("throw",), ("load", FIRST), ("op", "+"), GIVE)
        self.assertEqual(self.result(code, handlers=((2, 4, 4),)), 13)

    def test_the_frame_below(self):
        call = (("load", 0), ("const", 9), ("const", 0), ("callc", 0, HELPS), GIVE, ("const", 50), ("op", "+"), GIVE)
        divide = (("load", 1), ("load", 2), ("op", "/"), GIVE)
        self.assertEqual(self.result(call, help_code=divide), self.fails(DIVIDED))
        # The place of the frame below is that of its call.
        for first, last in ((0, 4), (3, 4)):
            self.assertEqual(self.result(call, handlers=((first, last, 5),), help_code=divide), 50 + DIVIDED)
        for first, last in ((0, 3), (4, 5)):
            self.assertEqual(self.result(call, handlers=((first, last, 5),), help_code=divide), self.fails(DIVIDED))
        # The one above comes first, and takes faults of its own alone.
        caught = divide + (("const", 7), ("op", "+"), GIVE)
        self.assertEqual(self.result(call, handlers=((0, 4, 5),), help_code=caught, help_handlers=((2, 3, 4),)), DIVIDED + 7)
        thrown = divide + (("const", 7), ("op", "+"), ("throw",))
        self.assertEqual(self.result(call, handlers=((0, 4, 5),), help_code=thrown, help_handlers=((2, 3, 4),)), DIVIDED + 57)
        # Behind it the code runs for the owner of the frame below.
        code = (("load", 0), ("get", 0, OTHER), ("const", 1), ("const", 0), ("callc", 0, HELPS), GIVE, ("pop",), ("const", 3), ("bytes",), ("size",), GIVE)
        self.ready(code, handlers=((0, 5, 6),), help_code=divide)
        self.heap.write(self.one, OTHER, self.make("own", 0, 5))
        self.assertEqual(self.run_it(), 3)
        self.assertEqual(self.heap.owner(3), 1)

    def test_a_handler_of_a_handler(self):
        code = (("const", 1), ("throw",), ("const", 1), ("op", "+"), ("throw",), ("const", 10), ("op", "*"), GIVE)
        self.assertEqual(self.result(code, handlers=((0, 2, 2), (2, 5, 5))), 20)
        # A ring of a handler and a step.
        code = (("step",), ("const", 1), ("throw",), ("pop",), ("jump", 0))
        self.assertEqual(self.result(code, handlers=((0, 3, 3),)), "gone")

    def test_what_no_handler_takes(self):
        code = (("step",),) * 1001 + (("const", 1), GIVE, GIVE)
        self.assertEqual(self.result(code, handlers=((0, 1003, 1003),)), "gone")
        # A fault of the same number that is thrown is taken.
        code = (("const", STEPS), ("throw",), GIVE)
        self.assertEqual(self.result(code, handlers=((0, 2, 2),)), STEPS)
        # The power fails.
        code = (("const", 1), ("bytes",), ("pop",), ("const", 1), GIVE, GIVE)
        for writes in range(6):
            self.ready(code, handlers=((0, 5, 5),))
            self.cells.cut(writes)
            self.assertEqual(self.run_it(), "cut" if writes < 5 else 1)
        # A new run does not go on with the frames of the last one.
        self.ready((("load", 1), ("jumpnot", 3), ("jump", 5), ("const", 1), GIVE, ("step",), ("jump", 5)))
        self.assertEqual([self.run_it(1), self.run_it(0), self.run_it(1), self.run_it(0)], ["gone", 1, "gone", 1])


class LooksTest(MachineCase):
    code = (("load", 0), ("get", 0, ROW), ("size",), ("buffer",), ("const", 0), ("at",), ("op", "+"), ("load", 0), ("is", A), ("op", "+"), GIVE)
    places = (2, 5, 8)

    def looks(self, needless, owner):
        self.ready(self.code, needless={"own": tuple((0, place) for place in needless)})
        self.heap.write(self.one, ROW, self.heap.make(BYTES_KIND, owner, 3))
        return self.run_it(), self.machine.looks()

    def test_number_of_looks(self):
        self.assertEqual(self.looks((), 1), (4, 3))
        # A look that does not pass was made.
        self.assertEqual(self.looks((), 2), (self.fails(LOOK), 1))
        for many in range(4):
            self.assertEqual(self.looks(self.places[:many], 1), (4, 3 - many))
        self.assertEqual(self.looks((0, 1, 3, 4), 1), (4, 3))
        # A look that is not made does not fail.
        self.assertEqual(self.looks((2,), 2), (4, 2))

    def test_other_methods_and_packages(self):
        for needless in ({"own": ((1, 2), (1, 5))}, {"bank": ((0, 2), (0, 5))}, {}):
            self.ready(self.code, needless=needless)
            self.heap.write(self.one, ROW, self.heap.make(BYTES_KIND, 1, 3))
            self.assertEqual((self.run_it(), self.machine.looks()), (4, 3))
            self.assertEqual((self.run_it(), self.machine.looks()), (4, 6))

    def test_needless_looks_of_later_runs(self):
        """What the dict has when a run begins counts for this run."""
        needless = {}
        self.ready(self.code, needless=needless)
        self.machine = Machine(self.world, self.heap, self.journal, self.seek, needless)
        self.heap.write(self.one, ROW, self.heap.make(BYTES_KIND, 1, 3))
        self.assertEqual((self.run_it(), self.machine.looks()), (4, 3))
        needless["own"] = ((0, 2), (0, 8))
        self.assertEqual((self.run_it(), self.machine.looks()), (4, 4))

    def test_no_look_at_null(self):
        self.ready(self.code)
        self.assertEqual((self.run_it(), self.machine.looks()), (self.fails(NULL), 0))


if __name__ == "__main__":
    unittest.main()
