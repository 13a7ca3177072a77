"""A card that runs modules, written without the plain reading: objects are rows of numbers."""

from warycard.compiling import build
from warycard.linking import World
from warycard.words import op, wrap

NULL, PLACE, DIVIDED, KIND, LOOK, ROOM, SIZE, TRANSACTION, DEPTH, STEPS = range(-1, -11, -1)
BYTES, TEMP, BUFFER = -1, -2, 61


class Failed(Exception):
    """A fault."""


class Gone(Exception):
    """All steps were made."""


class Dark(Exception):
    """The power has failed."""


def need(holds, code):
    if not holds:
        raise Failed(code)


class Frame:
    def __init__(self, package, number, owner, slots):
        self.package, self.number, self.owner, self.slots = package, number, owner, slots
        self.place, self.stack = 0, []


class CodeCard:
    """The calls of a card (points 415 to 424), for modules without improvement or with it."""

    def __init__(self, improve):
        self.improve = improve
        self.world = World()
        # Each object is a list of its kind, its owner and its values.
        self.objects = {BUFFER: [TEMP, 0, [0] * 64]}
        self.applets = {}
        self.channels = [None] * 4
        self.notes = None
        self.power, self.left = True, None

    def load(self, core):
        if not self.power:
            return ("off",)
        if core[1] in self.world.names():
            return ("refused", "twice")
        versions = {name: self.world.module(name)[2] for name in self.world.names()}
        if any(versions.get(name) != version for name, version in core[3]):
            return ("refused", "used")
        self.world.add(build(core, improve=self.improve))
        return ("ok",)

    def guarded(self, call, *args):
        if not self.power:
            return ("off",)
        try:
            return call(*args)
        except Dark:
            return ("off",)

    def make(self, package, class_name, name, data):
        return self.guarded(self.make_now, package, class_name, name, data)

    def make_now(self, package, class_name, name, data):
        g = self.world.applet(package, class_name)
        if g < 0:
            return ("refused", "class")
        if any(name == row[0] for row in self.applets.values()):
            return ("refused", "taken")
        taken = {self.objects[number][1] for number in self.reached(self.roots())}
        free = [owner for owner in range(1, 9) if owner not in taken]
        if not free:
            return ("refused", "places")
        try:
            number = self.new(g, free[0], len(self.world.fields(g)))
        except Failed as fault:
            return ("fault",) + fault.args
        code, _ = self.run(number, "made", data)
        if code is not None:
            return ("fault", code)
        self.effect()
        self.applets[free[0]] = (name, number)
        return ("ok",)

    def choose(self, channel, name):
        if not self.power:
            return ("off",)
        if all(name != row[0] for row in self.applets.values()):
            return ("refused", "name")
        self.channels[channel] = name
        return ("ok",)

    def send(self, channel, data):
        return self.guarded(self.send_now, channel, data)

    def send_now(self, channel, data):
        for name, number in self.applets.values():
            if name == self.channels[channel]:
                code, many = self.run(number, "process", data)
                if code is not None:
                    return ("fault", code)
                return ("ok", tuple(self.objects[BUFFER][2][:many])) if 0 <= many <= 64 else ("refused", "size")
        return ("refused", "empty")

    def drop(self, name):
        return self.guarded(self.drop_now, name)

    def drop_now(self, name):
        for owner, row in list(self.applets.items()):
            if row[0] == name:
                if name in self.channels:
                    return ("refused", "chosen")
                others = [number for other, (_, number) in sorted(self.applets.items()) if other != owner]
                if any(self.objects[number][1] == owner for number in self.reached(others)):
                    return ("refused", "held")
                self.effect()
                del self.applets[owner]
                return ("ok",)
        return ("refused", "name")

    def collect(self):
        return self.guarded(self.collect_now)

    def collect_now(self):
        self.effect()
        kept = self.reached(self.roots())
        self.objects = {number: row for number, row in self.objects.items() if number in kept or number == BUFFER}
        return ("ok",)

    def cut(self, effects):
        self.left = effects

    def reset(self):
        self.power, self.left = True, None
        self.channels = [None] * 4
        for row in self.objects.values():
            if row[0] == TEMP:
                row[2] = [0] * len(row[2])

    def chosen(self):
        return tuple(self.channels)

    def used(self):
        rows = [row for number, row in self.objects.items() if number != BUFFER]
        return sum(3 + len(row[2]) for row in rows), len(rows)

    def roots(self):
        return [number for _, (_, number) in sorted(self.applets.items())]

    def refers(self, number):
        """Return the places at which an object refers to others."""
        kind = self.objects[number][0]
        return [place for place, one in enumerate(self.world.fields(kind)) if one != ("int",)] if kind >= 0 else []

    def reached(self, roots):
        found = []
        for number in roots:
            if number not in found:
                found.append(number)
        for number in found:
            for place in self.refers(number):
                other = self.objects[number][2][place]
                if other != 0 and other not in found:
                    found.append(other)
        return found

    def state(self):
        found = self.reached(self.roots())
        objects = []
        for number in found:
            kind, owner, row = self.objects[number]
            places = self.refers(number)
            shown = tuple(worth if place not in places else ("object", found.index(worth)) if worth else None
                          for place, worth in enumerate(row))
            if kind >= 0:
                package = self.world.package(kind)
                kind = ("class", package, self.world.module(package)[5][self.world.own(kind)][0])
            objects.append(({BYTES: "bytes", TEMP: "temp"}.get(kind, kind), owner, shown))
        applets = tuple((owner, name, found.index(number)) for owner, (name, number) in sorted(self.applets.items()))
        return applets, tuple(objects)

    def effect(self):
        if self.left == 0:
            self.put_back()
            self.power = False
            raise Dark()
        self.left = None if self.left is None else self.left - 1

    def put_back(self):
        for number, place, worth in (self.notes or [])[::-1]:
            self.objects[number][2][place] = worth
        self.notes = None

    def new(self, kind, owner, size):
        cells, many = self.used()
        need(many < 60 and cells + 3 + size <= 400, ROOM)
        self.effect()
        number = min(set(range(1, 61)) - set(self.objects))
        self.objects[number] = [kind, owner, [0] * size]
        return number

    def change(self, number, place, worth):
        if self.objects[number][0] != TEMP:
            if self.notes is None:
                self.effect()
            else:
                need(len(self.notes) < 40, TRANSACTION)
                self.notes.append((number, place, self.objects[number][2][place]))
        self.objects[number][2][place] = worth

    def run(self, number, name, data):
        """Run a method; return the fault that ends it, or None, and its result."""
        self.objects[BUFFER][2] = list(data) + [0] * (64 - len(data))
        self.steps, self.frames, self.result = 0, [], None
        code = None
        g = self.objects[number][0]
        names = [row[0] for row in self.class_of(g)[4]]
        self.enter(number, names.index(name), [len(data)])
        try:
            while self.frames:
                try:
                    self.do(self.frames[-1])
                except Failed as fault:
                    code = self.handle(fault.args[0])
        except Gone:
            code = STEPS
        self.put_back()
        return code, self.result

    def class_of(self, g):
        return self.world.module(self.world.package(g))[5][self.world.own(g)]

    def method_of(self, frame):
        return self.world.module(frame.package)[6][frame.number]

    def enter(self, number, row, values):
        kind, owner, _ = self.objects[number]
        frame = Frame(self.world.package(kind), self.world.method(kind, row), owner, [number] + values)
        frame.slots += [0] * len(self.method_of(frame)[4])
        self.frames.append(frame)

    def handle(self, code):
        """Give a fault to the first handler that takes it; return it if there is none."""
        while self.frames:
            frame = self.frames[-1]
            for first, last, at in self.method_of(frame)[7]:
                if first <= frame.place < last:
                    frame.stack, frame.place = [code], at
                    return None
            self.frames.pop()
        return code

    def step(self):
        if self.steps == 1000:
            raise Gone()
        self.steps += 1

    def look(self, frame, number):
        need(number == BUFFER or self.objects[number][1] == frame.owner, LOOK)

    def call(self, number, row, values):
        self.step()
        need(len(self.frames) < 8, DEPTH)
        self.enter(number, row, values)

    def do(self, frame):
        """Run one instruction."""
        word, *rest = self.method_of(frame)[6][frame.place]
        getattr(self, "do_" + word)(frame, *rest)
        if word not in ("jump", "jumpif", "jumpnot", "callc", "callf", "return", "returnv"):
            frame.place += 1

    def do_const(self, frame, n):
        frame.stack.append(n)

    def do_null(self, frame):
        frame.stack.append(0)

    def do_load(self, frame, slot):
        frame.stack.append(frame.slots[slot])

    def do_store(self, frame, slot):
        frame.slots[slot] = frame.stack.pop()

    def do_pop(self, frame):
        frame.stack.pop()

    def do_neg(self, frame):
        frame.stack.append(wrap(-frame.stack.pop()))

    def do_not(self, frame):
        frame.stack.append(int(frame.stack.pop() == 0))

    def do_op(self, frame, sign):
        right, left = frame.stack.pop(), frame.stack.pop()
        found = op(sign, left, right)
        need(found is not None, DIVIDED)
        frame.stack.append(found)

    def do_same(self, frame):
        frame.stack.append(int(frame.stack.pop() == frame.stack.pop()))

    def do_jump(self, frame, place):
        frame.place = place

    def do_jumpif(self, frame, place):
        frame.place = place if frame.stack.pop() != 0 else frame.place + 1

    def do_jumpnot(self, frame, place):
        frame.place = place if frame.stack.pop() == 0 else frame.place + 1

    def do_get(self, frame, k, field):
        number = frame.stack.pop()
        need(number, NULL)
        frame.stack.append(self.objects[number][2][field])

    def do_put(self, frame, k, field):
        worth, number = frame.stack.pop(), frame.stack.pop()
        need(number, NULL)
        fields = self.world.fields(self.world.number(frame.package, k))
        need(worth != BUFFER or fields[field] == ("int",), LOOK)
        self.change(number, field, worth)

    def place_of(self, frame, number, place):
        need(number, NULL)
        self.look(frame, number)
        need(0 <= place < len(self.objects[number][2]), PLACE)

    def do_at(self, frame):
        place, number = frame.stack.pop(), frame.stack.pop()
        self.place_of(frame, number, place)
        frame.stack.append(self.objects[number][2][place])

    def do_setat(self, frame):
        worth, place, number = frame.stack.pop(), frame.stack.pop(), frame.stack.pop()
        self.place_of(frame, number, place)
        self.change(number, place, worth % 256)

    def do_size(self, frame):
        number = frame.stack.pop()
        need(number, NULL)
        self.look(frame, number)
        frame.stack.append(len(self.objects[number][2]))

    def do_new(self, frame, k):
        g = self.world.number(frame.package, k)
        frame.stack.append(self.new(g, frame.owner, len(self.world.fields(g))))

    def do_bytes(self, frame, kind=BYTES):
        size = frame.stack.pop()
        need(0 <= size <= 64, SIZE)
        frame.stack.append(self.new(kind, frame.owner, size))

    def do_temp(self, frame):
        self.do_bytes(frame, TEMP)

    def do_callc(self, frame, k, row):
        many = len(self.class_of(self.world.number(frame.package, k))[4][row][1])
        values = [frame.stack.pop() for _ in range(many)][::-1]
        number = frame.stack.pop()
        need(number, NULL)
        self.call(number, row, values)

    def do_callf(self, frame, package, face, place):
        many = len(self.world.face(package, face)[place][1])
        values = [frame.stack.pop() for _ in range(many)][::-1]
        number = frame.stack.pop()
        need(number, NULL)
        self.call(number, self.world.row(self.objects[number][0], package, face, place), values)

    def do_return(self, frame):
        self.frames.pop()
        if self.frames:
            self.frames[-1].place += 1

    def do_returnv(self, frame):
        self.frames.pop()
        if self.frames:
            self.frames[-1].stack.append(frame.stack[-1])
            self.frames[-1].place += 1
        else:
            self.result = frame.stack[-1]

    def do_throw(self, frame):
        raise Failed(frame.stack.pop())

    def is_of(self, frame, number, kind):
        if kind[0] == "class":
            self.look(frame, number)
        return self.world.is_kind(self.objects[number][0], frame.package, kind)

    def do_is(self, frame, kind):
        number = frame.stack.pop()
        frame.stack.append(int(number != 0 and self.is_of(frame, number, kind)))

    def do_as(self, frame, kind):
        number = frame.stack.pop()
        need(number == 0 or self.is_of(frame, number, kind), KIND)
        frame.stack.append(number)

    def do_seek(self, frame, kind, text):
        found = [number for name, number in self.applets.values() if name == text]
        found = [number for number in found if self.world.is_kind(self.objects[number][0], frame.package, kind)]
        frame.stack.append((found + [0])[0])

    def do_buffer(self, frame):
        frame.stack.append(BUFFER)

    def do_begin(self, frame):
        need(self.notes is None, TRANSACTION)
        self.notes = []

    def do_commit(self, frame):
        need(self.notes is not None, TRANSACTION)
        if self.notes:
            self.effect()
        self.notes = None

    def do_abort(self, frame):
        need(self.notes is not None, TRANSACTION)
        self.put_back()

    def do_step(self, frame):
        self.step()
