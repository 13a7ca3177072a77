"""The plain reading of programs (points 400 to 424)."""

from warycard.answers import OFF, OK, faulty, refused, send_answer
from warycard.answers import choose_refusal, drop_refusal, load_refusal, make_refusal, send_refusal
from warycard.errors import Fault, PowerCut, StepsGone
from warycard.limits import MOST_APPLETS, MOST_CHANNELS, STEPS
from warycard.memory import Memory, Thing, reached
from warycard.running import Run
from warycard.shelf import Shelf, first_values


class PlainCard:
    """A card that runs core trees."""

    def __init__(self):
        self._shelf = Shelf()
        self._memory = Memory()
        # The names and the objects of the applets, by their owners.
        self._applets = {}
        # The names of the applets that are chosen, by their channels.
        self._taken = [None] * MOST_CHANNELS

    def load(self, core):
        """Put a package on the card."""
        if not self._memory.has_power():
            return OFF
        refusal = load_refusal(core[1], core[3], self._shelf.versions())
        if refusal is not None:
            return refusal
        self._shelf.put(core)
        return OK

    def make(self, package, class_name, name, data):
        """Make an applet."""
        if not self._memory.has_power():
            return OFF
        form = self._shelf.applet_form(package, class_name)
        owners = self._free_owners()
        refusal = make_refusal(name, data, form is not None, self._names(), owners)
        if refusal is not None:
            return refusal
        try:
            return self._make(owners[0], form, name, data)
        except PowerCut:
            return OFF

    def choose(self, channel, name):
        """Choose an applet on a channel."""
        if not self._memory.has_power():
            return OFF
        refusal = choose_refusal(channel, name, self._names())
        if refusal is not None:
            return refusal
        self._taken[channel] = name
        return OK

    def send(self, channel, data):
        """Send data to the applet that is chosen on a channel."""
        if not self._memory.has_power():
            return OFF
        refusal = send_refusal(channel, data, self._taken)
        if refusal is not None:
            return refusal
        try:
            return self._send(self._names()[self._taken[channel]], data)
        except PowerCut:
            return OFF

    def drop(self, name):
        """Remove the name of an applet."""
        if not self._memory.has_power():
            return OFF
        refusal = drop_refusal(name, self._names(), self._taken)
        if refusal is not None:
            return refusal
        owner = self._names()[name]
        others = [thing for place, (_, thing) in self._applets.items() if place != owner]
        if owner in [thing.keeper for thing in reached(others)]:
            return refused("held")
        try:
            self._memory.effect()
        except PowerCut:
            return OFF
        del self._applets[owner]
        return OK

    def collect(self):
        """Remove all objects that cannot be reached."""
        if not self._memory.has_power():
            return OFF
        try:
            self._memory.keep(self._roots())
        except PowerCut:
            return OFF
        return OK

    def reset(self):
        """Switch the power on."""
        self._memory.reset()
        self._taken = [None] * MOST_CHANNELS

    def cut(self, effects):
        """Let the power fail behind a number of effects."""
        self._memory.cut(effects)

    def state(self):
        """Return a picture of all that the applets lead to."""
        found = reached(self._roots())
        numbers = {thing: number for number, thing in enumerate(found)}
        applets = []
        for owner in sorted(self._applets):
            name, thing = self._applets[owner]
            applets.append((owner, name, numbers[thing]))
        return tuple(applets), tuple([self._shown(thing, numbers) for thing in found])

    def used(self):
        """Return the numbers of cells and of objects."""
        return self._memory.used()

    def chosen(self):
        """Return the names that are chosen on the channels."""
        return tuple(self._taken)

    def copy(self):
        """Return another card that has what this one has, as if no transaction were open."""
        other = PlainCard()
        other._shelf = self._shelf.copy()
        memory, twins = self._memory.copy()
        other._memory = memory
        other._applets = {owner: (name, twins[thing]) for owner, (name, thing) in self._applets.items()}
        other._taken = list(self._taken)
        return other

    def watch(self, watcher):
        """Let the power fail in the place of the first effect that a watcher stops."""
        self._memory.watch(watcher)

    def _names(self):
        """Return the owners of the applets, by their names."""
        return {name: owner for owner, (name, _) in self._applets.items()}

    def _roots(self):
        """Return the objects of the applets, in the order of their owners."""
        return [self._applets[owner][1] for owner in sorted(self._applets)]

    def _free_owners(self):
        kept = {thing.keeper: True for thing in reached(self._roots())}
        return [owner for owner in range(1, MOST_APPLETS + 1) if owner not in kept]

    def _make(self, owner, form, name, data):
        try:
            thing = self._memory.make(form, owner, first_values(self._shelf.field_kinds(form)))
        except Fault as fault:
            return faulty(fault.code)
        code, _ = self._run(thing, "made", data)
        if code is not None:
            return faulty(code)
        self._memory.effect()
        self._applets[owner] = (name, thing)
        return OK

    def _send(self, owner, data):
        code, many = self._run(self._applets[owner][1], "process", data)
        return send_answer(many, self._memory.buffer.held) if code is None else faulty(code)

    def _run(self, thing, word, data):
        """Run a method; return the pair of the fault that ends it, or None, and its result."""
        self._memory.fill(data)
        run = Run(self._shelf, self._memory, {name: root for name, root in self._applets.values()})
        code = None
        result = None
        try:
            result = run.start(thing, self._shelf.named_row(thing.form, word), [len(data)], 1)
        except Fault as fault:
            code = fault.code
        except StepsGone:
            code = STEPS
        self._memory.close()
        return code, result

    def _shown(self, thing, numbers):
        """Return an object as it stands in the picture."""
        kind = thing.form[0]
        if kind == "class":
            kind = ("class", thing.form[1], self._shelf.class_name(thing.form))
        held = [("object", numbers[value]) if isinstance(value, Thing) else value for value in thing.held]
        return kind, thing.keeper, tuple(held)
