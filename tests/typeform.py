"""Points 801 to 803, written once more: the places of a method are gone through in an order of chance."""

INT, BYTES, NULL, NOTHING = ("int",), ("bytes",), ("null",), ("nothing",)
# Behind the name of an instruction what it takes and what it puts, as in the table of point 802.
TABLE = """
const : int / null : null / pop any : / neg int : int / not int : int / op int int : int / same R R : int
jump : / jumpif int : / jumpnot int : / at bytes int : int / setat bytes int int : / size bytes : int
bytes int : bytes / temp int : bytes / throw int : / buffer : bytes / begin : / commit : / abort : / step : / return :
"""
ROWS = {}
for line in TABLE.replace("\n", "/").split("/"):
    if line.strip():
        ahead, behind = line.split(":")
        word, *takes = ahead.split()
        ROWS[word] = (tuple((one,) for one in takes), tuple((one,) for one in behind.split()))


class Wrong(Exception):
    """The code is refused."""


def need(holds):
    if not holds:
        raise Wrong()


class Types:
    """The types of a module, among other modules, by their names."""

    def __init__(self, modules, module):
        self.modules, self.module = modules, module
        self.classes = module[5]

    def above(self, k):
        found = []
        while k >= 0:
            found.append(k)
            k = self.classes[k][1]
        return found

    def heads(self, package, face):
        need(package == self.module[1] or package in [use[0] for use in self.module[3]])
        faces = dict(self.modules[package][4])
        need(face in faces)
        return faces[face]

    def fits(self, one, other):
        if one == other or other == ("any",):
            return True
        if other == ("R",):
            return one != INT
        if other == ("O",):
            return one[0] in ("class", "face", "null")
        if one == NULL:
            return other != INT
        if one[0] != "class":
            return False
        if other[0] == "class":
            return other[1] in self.above(one[1])
        return any(other in self.classes[k][2] for k in self.above(one[1]))

    def known(self, kind):
        if kind[0] == "class":
            need(0 <= kind[1] < len(self.classes))
        else:
            self.heads(kind[1], kind[2])

    def effect(self, method, instruction):
        """Return what an instruction takes and puts."""
        word, *rest = instruction
        slots = (("class", method[0]),) + method[2] + method[4]
        if word in ("load", "store"):
            need(int(word == "store") <= rest[0] < len(slots))
            return ((), (slots[rest[0]],)) if word == "load" else ((slots[rest[0]],), ())
        if word in ("get", "put", "new", "callc"):
            need(0 <= rest[0] < len(self.classes))
            kind, row = ("class", rest[0]), self.classes[rest[0]]
            if word == "new":
                return (), (kind,)
            if word == "callc":
                need(0 <= rest[1] < len(row[4]))
                return self.call(kind, row[4][rest[1]])
            need(0 <= rest[1] < len(row[3]))
            return ((kind,), (row[3][rest[1]],)) if word == "get" else ((kind, row[3][rest[1]]), ())
        if word == "callf":
            heads = self.heads(rest[0], rest[1])
            need(0 <= rest[2] < len(heads))
            return self.call(("face", rest[0], rest[1]), heads[rest[2]])
        if word in ("is", "as", "seek"):
            self.known(rest[0])
            return ((), (rest[0],)) if word == "seek" else ((("O",),), (INT if word == "is" else rest[0],))
        if word in ("return", "returnv"):
            need((method[3] == NOTHING) == (word == "return"))
            return ((), ()) if word == "return" else ((method[3],), ())
        return ROWS[word]

    def call(self, kind, head):
        return (kind,) + head[1], () if head[2] == NOTHING else (head[2],)

    def places(self, method, chance):
        """Return the types at all places that are reached."""
        most, code, handlers = method[5:]
        for first, last, at in handlers:
            need(first < last <= at < len(code))
        found, waiting = {}, [(0, ())]
        while waiting:
            place, stack = waiting.pop(chance.randrange(len(waiting)))
            need(0 <= place < len(code))
            if place in found:
                need(found[place] == stack)
                continue
            found[place] = stack
            takes, puts = self.effect(method, code[place])
            need(len(takes) <= len(stack) <= most)
            rest = stack[:len(stack) - len(takes)]
            need(all(self.fits(one, other) for one, other in zip(stack[len(rest):], takes)))
            stack = rest + puts
            need(len(stack) <= most)
            later = []
            if code[place][0] in ("jump", "jumpif", "jumpnot"):
                later.append(code[place][1])
                need(code[place][1] > place or code[code[place][1]] == ("step",))
            if code[place][0] not in ("jump", "return", "returnv", "throw"):
                later.append(place + 1)
            waiting += [(other, stack) for other in later]
            waiting += [(at, (INT,)) for first, last, at in handlers if first <= place < last]
        return found


def passes(modules, module, chance):
    """Tell whether the code of a module is let pass."""
    types = Types(modules, module)
    try:
        for method in module[6]:
            types.places(method, chance)
    except Wrong:
        return False
    return True
