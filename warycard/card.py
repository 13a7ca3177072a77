"""The card (points 1200 to 1206)."""

from warycard.answers import OFF, OK, faulty, refused, send_answer
from warycard.answers import choose_refusal, drop_refusal, load_refusal, make_refusal, send_refusal
from warycard.cells import Cells
from warycard.errors import BadCode, BadLink, BadPackage, BadPaper, Fault, PowerCut, StepsGone
from warycard.finding import Places, Seeker
from warycard.heap import BUFFER, HEAP_CELLS, Heap
from warycard.journal import JOURNAL_CELLS, Journal
from warycard.limits import MOST_APPLETS, MOST_BUFFER, MOST_CHANNELS, STEPS
from warycard.linking import World
from warycard.loading import needless_looks, world_with
from warycard.machine import Machine
from warycard.names import NAMES_CELLS, Names
from warycard.packing import unpack
from warycard.pictures import state_of
from warycard.trying import try_module


class Card:
    """A card that runs the code of packages, and keeps its objects in cells."""

    def __init__(self, all_looks):
        self._all_looks = all_looks
        self._world = World()
        self._cells = Cells(NAMES_CELLS + JOURNAL_CELLS + HEAP_CELLS)
        self._applets = Names(self._cells, 0)
        self._seeker = Seeker(self._applets)
        self._places = Places(self._world)
        # The needless looks that the machine is told of, by the names of the packages.
        self._skipped = {}
        self._looks_before = 0
        self._begin_anew()

    def load(self, row, paper):
        """Put a package on the card."""
        if not self.on():
            return OFF
        try:
            module = unpack(row)
        except BadPackage:
            return refused("package")
        versions = {name: self._world.module(name)[2] for name in self._world.names()}
        refusal = load_refusal(module[1], module[3], versions)
        return self._load(module, paper) if refusal is None else refusal

    def make(self, package, class_name, name, data):
        """Make an applet."""
        if not self.on():
            return OFF
        g = self._applet_class(package, class_name)
        owners = self._free_owners()
        refusal = make_refusal(name, data, g >= 0, self._owners(), owners)
        if refusal is not None:
            return refusal
        try:
            return self._make(owners[0], g, name, data)
        except PowerCut:
            return OFF

    def choose(self, channel, name):
        """Choose an applet on a channel."""
        if not self.on():
            return OFF
        refusal = choose_refusal(channel, name, self._owners())
        if refusal is not None:
            return refusal
        self._taken[channel] = name
        return OK

    def send(self, channel, data):
        """Send data to the applet that is chosen on a channel."""
        if not self.on():
            return OFF
        refusal = send_refusal(channel, data, self._taken)
        if refusal is not None:
            return refusal
        try:
            return self._send(self._seeker(self._taken[channel]), data)
        except PowerCut:
            return OFF

    def drop(self, name):
        """Remove the name of an applet."""
        if not self.on():
            return OFF
        refusal = drop_refusal(name, self._owners(), self._taken)
        if refusal is not None:
            return refusal
        owner = self._owners()[name]
        if owner in self._keepers([number for other, number, _ in self._applets.rows() if other != owner]):
            return refused("held")
        try:
            self._applets.remove(owner)
        except PowerCut:
            return OFF
        return OK

    def collect(self):
        """Remove all objects that cannot be reached."""
        if not self.on():
            return OFF
        try:
            self._heap.collect(self._roots(), self._places)
        except PowerCut:
            return OFF
        return OK

    def cut(self, writes):
        """Let the power fail behind a number of writes."""
        self._cells.cut(writes)

    def reset(self, writes):
        """Switch the power on, and let it fail again behind a number of writes, unless this is None."""
        self._cells.restore()
        if writes is not None:
            self._cells.cut(writes)
        self._looks_before = self.looks()
        self._begin_anew()
        try:
            self._journal.put_back()
        except PowerCut:
            # A later reset does the rest.
            pass

    def chosen(self):
        """Return the names that are chosen on the channels."""
        return tuple(self._taken)

    def state(self):
        """Return a picture of all that the applets lead to."""
        return state_of(self._world, self._heap, self._applets.rows())

    def used(self):
        """Return the numbers of cells and of objects."""
        return self._heap.used()

    def on(self):
        """Tell whether there is power."""
        return self._cells.on()

    def looks(self):
        """Return the number of the looks that were made."""
        return self._looks_before + self._machine.looks()

    def _begin_anew(self):
        """Begin with what stands in the cells; nothing is chosen, and nothing is in memory that does not last."""
        self._taken = [None] * MOST_CHANNELS
        self._journal = Journal(self._cells, NAMES_CELLS)
        self._heap = Heap(self._cells, self._journal, NAMES_CELLS + JOURNAL_CELLS)
        self._machine = Machine(self._world, self._heap, self._journal, self._seeker, self._skipped)

    def _load(self, module, given):
        """Put a package on the card that it has not, unless it is refused."""
        name = module[1]
        try:
            world = world_with(self._world, module)
            try_module(world, module)
            needless = needless_looks(world, name, given)
        except BadLink:
            return refused("link")
        except BadCode:
            return refused("code")
        except BadPaper:
            return refused("paper")
        self._world.add(module)
        if not self._all_looks:
            self._skipped[name] = needless
        return OK

    def _owners(self):
        """Return the owners of the applets, by their names."""
        return {name: owner for owner, _, name in self._applets.rows()}

    def _roots(self):
        """Return the objects of the applets, in the order of their owners."""
        return [number for _, number, _ in self._applets.rows()]

    def _applet_class(self, package, name):
        """Return the number of an applet's class, or -1, for any values."""
        if not isinstance(package, str) or not isinstance(name, str):
            return -1
        return self._world.applet(package, name)

    def _reached(self, roots):
        return self._heap.reached(roots, self._places)

    def _keepers(self, roots):
        """Return the owners of all objects that can be reached from some."""
        return [self._heap.owner(number) for number in self._reached(roots)]

    def _free_owners(self):
        kept = self._keepers(self._roots())
        return [owner for owner in range(1, MOST_APPLETS + 1) if owner not in kept]

    def _make(self, owner, g, name, data):
        try:
            number = self._heap.make(g, owner, len(self._world.fields(g)))
        except Fault as fault:
            return faulty(fault.code)
        code, _ = self._run(number, "made", data)
        if code is not None:
            return faulty(code)
        self._applets.put(owner, number, name)
        return OK

    def _send(self, number, data):
        code, many = self._run(number, "process", data)
        if code is not None:
            return faulty(code)
        return send_answer(many, [self._heap.read(BUFFER, place) for place in range(MOST_BUFFER)])

    def _run(self, number, word, data):
        """Run a method; return the pair of the fault that ends it, or None, and its result."""
        self._heap.fill(data)
        code = None
        result = None
        try:
            result = self._machine.run(number, word, len(data))
        except Fault as fault:
            code = fault.code
        except StepsGone:
            code = STEPS
        self._journal.put_back()
        return code, result
