"""Points 902 to 909, written once more with sets of slots and of places on the stack."""

from random import Random

from typeform import Types


class Refused(Exception):
    """A value is no paper, or something is not so."""


def need(holds):
    if not holds:
        raise Refused()


def foreign(kind):
    return kind[0] in ("bytes", "face")


def integers(value, kind_of):
    """Tell whether a value is an ascending tuple of places with types whose values may be foreign."""
    if type(value) is not tuple or any(type(one) is not int or one < 0 for one in value):
        return False
    return list(value) == sorted(set(value)) and all(one < len(kind_of) and foreign(kind_of[one]) for one in value)


class Book:
    """A module among others."""

    def __init__(self, modules, name):
        self.modules, self.module = modules, modules[name]
        self.classes, self.methods = self.module[5], self.module[6]
        self.types = Types(modules, self.module)
        self.places = [self.types.places(method, Random(0)) for method in self.methods]

    def slots(self, number):
        method = self.methods[number]
        return (("class", method[0]),) + method[2] + method[4]

    def first(self, k, field):
        while self.classes[k][1] >= 0 and field < len(self.classes[self.classes[k][1]][3]):
            k = self.classes[k][1]
        return (k, field)

    def led(self):
        found = set()
        for k, row in enumerate(self.classes):
            for line in row[4]:
                if k in self.module[7] and line[0] in ("made", "process"):
                    found.add(line[3])
                for above in self.types.above(k):
                    for _, package, face in self.classes[above][2]:
                        if line[0] in [head[0] for head in dict(self.modules[package][4])[face]]:
                            found.add(line[3])
        return found

    def called(self, k, row):
        return {line[4][row][3] for heir, line in enumerate(self.classes) if k in self.types.above(heir)}

    def behind(self, claims, number, place, slots, stack):
        """Return what is loose behind an instruction, and the claims that it breaks; loose things are sets."""
        fields, params, results = claims
        kinds = self.places[number][place]
        word, *rest = self.methods[number][6][place]
        takes, puts = self.types.effect(self.methods[number], (word, *rest))
        low = len(kinds) - len(takes)
        taken = [low + step in stack for step in range(len(takes))]
        slots, stack = set(slots), {one for one in stack if one < low}
        loose, broken = False, set()
        if word == "load":
            loose = rest[0] in slots
        elif word == "store":
            slots.discard(rest[0])
            slots |= {rest[0]} if taken[0] else set()
        elif word == "get":
            loose = foreign(puts[0]) and self.first(*rest) not in fields
        elif word == "put" and taken[1] and self.first(*rest) in fields:
            broken.add(self.first(*rest))
        elif word == "callc":
            methods = self.called(*rest)
            broken |= {("param", one, slot) for one in methods for slot in range(1, len(taken))
                       if taken[slot] and (one, slot) in params}
            loose = puts and foreign(puts[0]) and not methods <= results
        elif word == "callf":
            loose = puts and foreign(puts[0])
        elif word == "seek":
            loose = True
        elif word == "as":
            loose = rest[0][0] == "face" and taken[0]
        elif word == "returnv" and taken[0] and number in results:
            broken.add(("result", number))
        return slots, stack | ({low} if loose else set()), broken

    def start(self, claims, number):
        params = self.methods[number][2]
        return {slot for slot, kind in enumerate(params, 1) if foreign(kind) and (number, slot) not in claims[1]}

    def jumps(self, number, place):
        code = self.methods[number][6]
        return [code[place][1]] if code[place][0] in ("jump", "jumpif", "jumpnot") else []

    def handlers(self, number, place):
        return [at for first, last, at in self.methods[number][7] if first <= place < last]

    def goes_on(self, number, place):
        return self.methods[number][6][place][0] not in ("jump", "return", "returnv", "throw")


def ask_form(book, paper):
    """Return the parts of a paper."""
    need(type(paper) is tuple and len(paper) == 4 and type(paper[0]) is str and paper[0] == "looks")
    fields, calls, places = paper[1:]
    need(all(type(part) is tuple and all(type(row) is tuple for row in part) for part in (fields, calls, places)))
    for row in fields:
        need(len(row) == 2 and all(type(one) is int for one in row) and 0 <= row[0] < len(book.classes))
        need(0 <= row[1] < len(book.classes[row[0]][3]) and foreign(book.classes[row[0]][3][row[1]]))
        need(book.first(*row) == row)
    for row in calls:
        need(len(row) == 3 and type(row[0]) is int and 0 <= row[0] < len(book.methods))
        method = book.methods[row[0]]
        need(integers(row[1], (("class", 0),) + method[2]))
        need(type(row[2]) is int and row[2] in (0, 1) and (row[2] == 0 or foreign(method[3])))
        need(row[0] not in book.led() or row[1] == ())
    for row in places:
        need(len(row) == 4 and type(row[0]) is int and 0 <= row[0] < len(book.methods))
        method = book.methods[row[0]]
        need(type(row[1]) is int and 0 <= row[1] < len(method[6]))
        need(integers(row[2], book.slots(row[0])) and integers(row[3], (("bytes",),) * method[5]))
    for keys in (fields, [row[0] for row in calls], [row[:2] for row in places]):
        need(list(keys) == sorted(set(keys)))
    return fields, calls, places


def judged(modules, name, paper):
    """Return the needless looks, or None if the paper is refused."""
    book = Book(modules, name)
    try:
        return judged_book(book, paper)
    except Refused:
        return None


def judged_book(book, paper):
    fields, calls, places = ask_form(book, paper)
    claims = (set(fields), {(number, slot) for number, slots, _ in calls for slot in slots},
              {number for number, _, result in calls if result})
    named = {row[:2]: (set(row[2]), set(row[3])) for row in places}
    found = []
    for number, method in enumerate(book.methods):
        kept = (0, book.start(claims, number), set())
        for place in range(len(method[6])):
            if place not in book.places[number]:
                continue
            kinds = book.places[number][place]
            here = kept is not None and kept[0] == place
            if (number, place) in named:
                slots, stack = named[number, place]
                need(all(one < len(kinds) and foreign(kinds[one]) for one in stack))
                need(not here or kept[1] <= slots and kept[2] <= stack)
            else:
                need(here)
                slots, stack = kept[1:]
            later_slots, later_stack, broken = book.behind(claims, number, place, slots, stack)
            need(not broken)
            for other in book.jumps(number, place):
                need((number, other) in named)
                need(later_slots <= named[number, other][0] and later_stack <= named[number, other][1])
            for at in book.handlers(number, place):
                need((number, at) in named and slots <= named[number, at][0])
            kept = (place + 1, later_slots, later_stack) if book.goes_on(number, place) else None
            word, *rest = method[6][place]
            low = {"setat": 3, "at": 2, "size": 1, "is": 1, "as": 1}.get(word)
            if low and (word not in ("is", "as") or rest[0][0] == "class") and len(kinds) - low not in stack:
                found.append((number, place))
    return tuple(found)


def written(modules, name):
    """Return the paper that claims the most."""
    book = Book(modules, name)
    led = book.led()
    fields = {(k, field) for k, row in enumerate(book.classes) for field, kind in enumerate(row[3])
              if foreign(kind) and book.first(k, field) == (k, field)}
    params = {(number, slot) for number, method in enumerate(book.methods) for slot, kind in enumerate(method[2], 1)
              if foreign(kind) and number not in led}
    results = {number for number, method in enumerate(book.methods) if foreign(method[3])}
    while True:
        claims = (fields, params, results)
        loose = [spread(book, claims, number) for number in range(len(book.methods))]
        broken = set()
        for number, row in enumerate(loose):
            for place, (slots, stack) in row.items():
                broken |= book.behind(claims, number, place, slots, stack)[2]
        if not broken:
            break
        fields = fields - broken
        params = {one for one in params if ("param",) + one not in broken}
        results = {one for one in results if ("result", one) not in broken}
    calls, places = [], []
    for number, method in enumerate(book.methods):
        slots = tuple(sorted(slot for one, slot in params if one == number))
        if slots or number in results:
            calls.append((number, slots, int(number in results)))
        ways = {other for place in loose[number] for other in book.jumps(number, place) + book.handlers(number, place)}
        places += [(number, place) + tuple(tuple(sorted(part)) for part in loose[number][place]) for place in sorted(ways)]
    return ("looks", tuple(sorted(fields)), tuple(calls), tuple(places))


def spread(book, claims, number):
    """Return what is loose at each place that is reached, by going through all places again and again."""
    loose = {place: (set(), set()) for place in book.places[number]}
    loose[0][0].update(book.start(claims, number))
    before = None
    while before != repr(sorted((place, sorted(slots), sorted(stack)) for place, (slots, stack) in loose.items())):
        before = repr(sorted((place, sorted(slots), sorted(stack)) for place, (slots, stack) in loose.items()))
        for place in loose:
            slots, stack, _ = book.behind(claims, number, place, *loose[place])
            for other in book.jumps(number, place) + [place + 1] * book.goes_on(number, place):
                loose[other][0].update(slots)
                loose[other][1].update(stack)
            for at in book.handlers(number, place):
                loose[at][0].update(loose[place][0])
    return loose
