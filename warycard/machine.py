"""The machine, which runs the code of modules (points 1100 to 1105)."""

from warycard.acting import ACTIONS, WAYS
from warycard.errors import Fault, StepsGone
from warycard.frames import CodeFrame
from warycard.heap import BUFFER
from warycard.limits import DEPTH, LOOK, MOST_DEPTH, MOST_STEPS


class Machine:
    """Runs methods of the objects of a heap."""

    def __init__(self, world, heap, journal, seek, needless):
        self.world = world
        self.heap = heap
        self.journal = journal
        self._find = seek
        self._needless = needless
        # The same for the packages of a run, as the keys of dicts, which are found faster.
        self._skipped = {}
        self._frames = []
        self._steps = 0
        self._looks = 0
        # What the last frame that was removed has returned, in a list, which is empty if it has returned nothing.
        self._returned = []

    def run(self, number, name, value):
        """Run a method of an object with one argument, and return its result, or None."""
        self._frames = []
        self._skipped = {}
        self._steps = 0
        g = self.heap.kind(number)
        table = self.world.module(self.world.package(g))[5][self.world.own(g)][4]
        self._enter(number, [row[0] for row in table].index(name), [value])
        while len(self._frames) > 0:
            self._go_on(self._frames[-1])
        return self._returned[0] if len(self._returned) > 0 else None

    def looks(self):
        """Return the number of the looks that were made."""
        return self._looks

    def step(self):
        """Make a step."""
        if self._steps >= MOST_STEPS:
            raise StepsGone()
        self._steps += 1

    def look(self, frame, number):
        """Make a look at an object, unless it is needless at the place of a frame."""
        if (frame.method_number, frame.place) in self._skipped[frame.home]:
            return
        self._looks += 1
        if number != BUFFER and self.heap.owner(number) != frame.keeper:
            raise Fault(LOOK)

    def applet(self, name):
        """Return the number of the object of the applet with a name, or 0."""
        find = self._find
        return find(name)

    def call(self, number, row, given):
        """Call the method in a row of the class of an object."""
        self.step()
        if len(self._frames) >= MOST_DEPTH:
            raise Fault(DEPTH)
        self._enter(number, row, given)

    def leave(self, returned):
        """Remove the last frame, and hand what it returns to the one below."""
        self._frames.pop()
        if len(self._frames) == 0:
            self._returned = returned
        else:
            below = self._frames[-1]
            below.stack.extend(returned)
            below.place += 1

    def _enter(self, number, row, given):
        g = self.heap.kind(number)
        home = self.world.package(g)
        method_number = self.world.method(g, row)
        method = self.world.module(home)[6][method_number]
        if home not in self._skipped:
            self._skipped[home] = {pair: True for pair in self._needless.get(home, ())}
        slots = [number] + given + [0] * len(method[4])
        self._frames.append(CodeFrame(home, method_number, method, self.heap.owner(number), slots))

    def _go_on(self, frame):
        """Run the next instruction."""
        instruction = frame.code[frame.place]
        try:
            if instruction[0] in WAYS:
                action = WAYS[instruction[0]]
                action(self, frame, instruction)
            else:
                action = ACTIONS[instruction[0]]
                action(self, frame, instruction)
                frame.place += 1
        except Fault as fault:
            self._catch(fault.code)

    def _catch(self, code):
        """Look for the handler that takes a fault, from the last frame on; raise it if there is none."""
        while len(self._frames) > 0 and not self._frames[-1].catch(code):
            self._frames.pop()
        if len(self._frames) == 0:
            raise Fault(code)
