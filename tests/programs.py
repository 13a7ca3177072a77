"""Core trees made by chance, the same ones for the same number."""

from random import Random

from warycard.words import SIGNS

INT, BYTES, NULL, NOTHING = ("int",), ("bytes",), ("null",), ("nothing",)
FAR = ("face", "far", "Q")
PAY, ASK = ("face", "bank", "Pay"), ("face", "bank", "Ask")
# No class of another package can have the face Pay, as the face Q is not known there.
USED = {
    "bank": (2, (
        ("Pay", (("pay", (INT,), INT), ("far", (), FAR), ("give", (FAR, INT), NOTHING), ("peer", (), PAY))),
        ("Ask", (("ask", (INT, BYTES), INT), ("peer", (), PAY))),
    )),
    "far": (7, (("Q", (("go", (), INT),)),)),
}


def above(classes, k):
    """Return the numbers of a class and of all classes above it."""
    found = []
    while k >= 0:
        found.append(k)
        k = classes[k][1]
    return found


def listed(classes, k):
    return [face for one in above(classes, k) for face in classes[one][2]]


class Programs:
    """Makes core trees for the packages of USED."""

    def __init__(self, seed):
        self.chance = Random(seed)

    def core(self, name="own", room=7):
        """Make a core tree whose expressions and statements are nested at most as deeply as there is room."""
        self.name, self.room = name, room
        self.count = self.chance.randint(1, 4)
        own = [("face", name, "F"), ("face", name, "G")]
        crossing = [INT, BYTES, PAY, ASK] + own
        kinds = crossing + [("class", k) for k in range(self.count)]
        self.signs = {"made": ((INT,), NOTHING), "process": ((INT,), INT), "ask": ((INT, BYTES), INT), "peer": ((), PAY)}
        heads = {}
        for word in ("a", "b", "c", "d"):
            pick = crossing if word in "ab" else kinds
            params = tuple(self.chance.choice(pick) for _ in range(self.chance.randint(0, 2)))
            self.signs[word] = (params, self.chance.choice(pick + [NOTHING]))
        for face in ("F", "G"):
            heads[face] = tuple((word,) + self.signs[word] for word in self.some(("a", "b", "process", "ask")))
        self.heads = {("face", name, face): rows for face, rows in heads.items()}
        self.heads.update({("face", "bank", face): rows for face, rows in USED["bank"][1]})
        self.kinds = kinds
        self.classes = []
        for k in range(self.count):
            self.classes.append(self.outline(k, own))
        full = []
        for k, row in enumerate(self.classes):
            methods = tuple(head + self.body(k, head) for head in row[5])
            full.append(row[:5] + (methods,))
        names = [{line[0]: line for line in row[4]} for row in full]
        applets = tuple(k for k in range(self.count) if {"made", "process"} <= set(names[k]))
        return ("core", name, 1, (("bank", 2),), tuple(heads.items()), tuple(full), applets)

    def some(self, row):
        return [item for item in row if self.chance.random() < 0.5]

    def outline(self, k, own):
        """Make a class without the bodies of its methods."""
        parent = self.chance.randint(-1, k - 1)
        faces = tuple(self.some(own + [ASK]))
        fields, table = (self.classes[parent][3], self.classes[parent][4]) if parent >= 0 else ((), ())
        fields += tuple(self.chance.choice(self.kinds) for _ in range(self.chance.randint(0, 3)))
        words = self.some(("a", "b", "c", "d")) + self.some(("made", "process"))
        needed = [head[0] for face in faces for head in self.heads[face]]
        there = [row[0] for row in table]
        words += [word for word in dict.fromkeys(needed) if word not in words + there]
        self.chance.shuffle(words)
        table = list(table)
        for place, word in enumerate(words):
            row = (word,) + self.signs[word] + (k, place)
            if word in there:
                table[there.index(word)] = row
            else:
                table.append(row)
        return (f"C{k}", parent, faces, fields, tuple(table), tuple((word,) + self.signs[word] for word in words))

    def body(self, k, head):
        """Make the variables and the body of a method."""
        _, params, self.result = head
        self.slots = [("class", k)] + list(params)
        self.open = list(range(len(self.slots)))
        self.nodes = 0
        first = len(self.slots)
        body = self.statements(self.room, 4)
        if not (body and self.ended(body[-1])) and self.result != NOTHING:
            body += (("return", self.fitting(self.result, 2)),)
        return tuple(self.slots[first:]), body

    def ended(self, statement):
        if statement[0] in ("return", "throw"):
            return True
        if statement[0] == "if":
            return all(body and self.ended(body[-1]) for body in statement[2:])
        return statement[0] == "try" and all(body and self.ended(body[-1]) for body in statement[1::2])

    def statements(self, room, most):
        found = []
        before = list(self.open)
        for _ in range(self.chance.randint(0, most)):
            if self.nodes > 150:
                break
            found.append(self.statement(room))
            self.nodes += 1
            if self.ended(found[-1]):
                break
        self.open = before
        return tuple(found)

    def statement(self, room):
        words = ["set", "var", "put", "store", "return", "throw", "do", "begin", "commit", "abort"]
        if room > 3:
            words += ["if", "while", "try"] * 3
        return getattr(self, "make_" + self.chance.choice(words))(room - 1)

    def condition(self, room):
        return self.chance.choice((self.truth, self.integer))(room)

    def make_var(self, room):
        if len(self.slots) > 40:
            return ("begin",)
        kind = self.chance.choice(self.kinds)
        worth = self.fitting(kind, room)
        self.slots.append(kind)
        self.open.append(len(self.slots) - 1)
        return ("set", len(self.slots) - 1, worth)

    def make_set(self, room):
        slots = [slot for slot in self.open if slot > 0]
        if not slots:
            return self.make_var(room)
        slot = self.chance.choice(slots)
        return ("set", slot, self.fitting(self.slots[slot], room))

    def make_put(self, room):
        rows = [k for k, row in enumerate(self.classes) if row[3]]
        if not rows:
            return ("commit",)
        k = self.chance.choice(rows)
        field = self.chance.randrange(len(self.classes[k][3]))
        return ("put", self.exact(("class", k), room), k, field, self.fitting(self.classes[k][3][field], room))

    def make_store(self, room):
        return ("store", self.fitting(BYTES, room), self.integer(room), self.integer(room))

    def make_if(self, room):
        return ("if", self.condition(room), self.statements(room, 3), self.statements(room, 2))

    def make_while(self, room):
        return ("while", self.condition(room), self.statements(room, 3))

    def make_try(self, room):
        one = self.statements(room, 3)
        self.slots.append(INT)
        slot = len(self.slots) - 1
        before = list(self.open)
        self.open.append(slot)
        other = self.statements(room, 2)
        self.open = before
        return ("try", one, slot, other)

    def make_return(self, room):
        if self.result == NOTHING:
            return ("return", None)
        return ("return", self.fitting(self.result, room))

    def make_throw(self, room):
        return ("throw", self.integer(room))

    def make_do(self, room):
        found = self.call(None, room)
        return ("do",) + found if found else ("abort",)

    def make_begin(self, room):
        return ("begin",)

    def make_commit(self, room):
        return ("commit",)

    def make_abort(self, room):
        return ("abort",)

    def truth(self, room):
        """Make a condition of conditions."""
        if room < 2:
            return self.integer(room)
        word = self.chance.choice(("and", "or", "not", "op"))
        if word == "not":
            return ("not", self.truth(room - 1))
        if word == "op":
            return ("op", self.chance.choice(SIGNS[10:]), self.integer(room - 1), self.integer(room - 1))
        return (word, self.truth(room - 1), self.truth(room - 1))

    def integer(self, room):
        self.nodes += 1
        if room < 2 or self.chance.random() < 0.3 or self.nodes > 200:
            slots = [slot for slot in self.open if self.slots[slot] == INT]
            if slots and self.chance.random() < 0.5:
                return ("slot", self.chance.choice(slots))
            return ("int", self.chance.choice((0, 0, 1, 1, 2, 7, 255, 32767)))
        word = self.chance.choice(("neg", "not", "op", "op", "op", "and", "or", "same", "is", "at", "size", "get", "call"))
        room -= 1
        if word in ("neg", "not"):
            return (word, self.integer(room))
        if word == "op":
            return ("op", self.chance.choice(SIGNS), self.integer(room), self.integer(room))
        if word in ("and", "or"):
            return (word, self.integer(room), self.integer(room))
        if word == "same":
            if self.chance.random() < 0.3:
                return ("same", self.fitting(BYTES, room), self.fitting(BYTES, room))
            return ("same", self.object(room), self.object(room))
        if word == "is":
            return ("is", self.object(room), self.chance.choice(self.kinds[2:]))
        if word == "at":
            return ("at", self.fitting(BYTES, room), self.integer(room))
        if word == "size":
            return ("size", self.fitting(BYTES, room))
        found = self.get(INT, room) if word == "get" else (self.call(INT, room) or (None,))[0]
        return found or ("int", 3)

    def object(self, room):
        if self.chance.random() < 0.2:
            return ("null",)
        return self.exact(self.chance.choice(self.kinds[2:]), room)

    def get(self, kind, room):
        places = [(k, field) for k, row in enumerate(self.classes) for field, one in enumerate(row[3]) if one == kind]
        if not places:
            return None
        k, field = self.chance.choice(places)
        return ("get", self.exact(("class", k), room), k, field)

    def call(self, kind, room):
        """Make a call with a result, or with any if this is None; return it with its result."""
        rows = [("callc", k, row) for k, line in enumerate(self.classes) for row, _ in enumerate(line[4])]
        rows += [("callf", face, number) for face, heads in self.heads.items() for number, _ in enumerate(heads)]
        self.chance.shuffle(rows)
        for word, owner, place in rows:
            _, params, result = self.classes[owner][4][place][:3] if word == "callc" else self.heads[owner][place]
            if (kind is None or kind == result) and self.nodes < 200:
                self.nodes += 1
                args = tuple(self.fitting(param, room - 1) for param in params)
                if word == "callc":
                    return ("callc", self.exact(("class", owner), room - 1), owner, place, args), result
                return ("callf", self.exact(owner, room - 1)) + owner[1:] + (place, args), result
        return None

    def fitting(self, kind, room):
        """Make an expression that fits a type."""
        if kind == INT:
            return self.integer(room)
        kinds = [kind]
        for k, _ in enumerate(self.classes):
            if kind[0] == "class" and kind[1] in above(self.classes, k) or kind in listed(self.classes, k):
                kinds.append(("class", k))
        if self.chance.random() < 0.2 or kind == FAR and room < 2:
            return ("null",)
        return self.exact(self.chance.choice(kinds), room)

    def exact(self, kind, room):
        """Make an expression of a type other than int."""
        self.nodes += 1
        slots = [slot for slot in self.open if self.slots[slot] == kind]
        if slots and self.chance.random() < 0.5:
            return ("slot", self.chance.choice(slots))
        if kind == FAR:
            return ("callf", self.exact(PAY, room - 1), "bank", "Pay", 1, ())
        if room > 2 and self.chance.random() < 0.4:
            found = self.get(kind, room - 1) or (self.call(kind, room - 1) or (None,))[0]
            if found:
                return found
        if kind == BYTES:
            if room < 2 or self.chance.random() < 0.3:
                return ("buffer",)
            return (self.chance.choice(("bytes", "temp")), self.integer(room - 1))
        if kind[0] == "class" and (room < 2 or self.chance.random() < 0.5):
            return ("new", kind[1])
        if kind[0] == "face" and (room < 2 or self.chance.random() < 0.5):
            return ("seek", kind, self.chance.choice(("one", "two")))
        return ("as", self.object(room - 1), kind)
