"""Source trees made by chance, and their texts with all the brackets that may stand there."""

from random import Random

SIGNS = ("+", "-", "*", "/", "mod", "&", "|", "^", "<<", ">>", "==", "!=", "<", "<=", ">", ">=")
NAMES = ("a", "b", "Box", "Purse2", "iff", "a" * 20, "x9")
TEXTS = ("x", "bus pass", "#", "(", "a" * 16, ";{")

# A source tree of one class with one method, with the given body.
def program(*body):
    return ("package", "p", 1, (), (), (("class", "C", None, (), (), (("method", "m", (), None, body),)),), ())


class Maker:
    """Makes trees, the same ones for the same number."""

    def __init__(self, seed):
        self.chance = Random(seed)

    def name(self):
        return self.chance.choice(NAMES)

    def many(self, make, most, *args):
        return tuple(make(*args) for _ in range(self.chance.randint(0, most)))

    def named(self):
        return ("name", self.name()) if self.chance.random() < 0.6 else ("of", self.name(), self.name())

    def kind(self):
        return self.chance.choice(("int", "bytes", self.named()))

    def leaf(self):
        word = self.chance.choice(("int", "int", "null", "this", "buffer", "name", "name", "new", "seek"))
        if word == "int":
            return ("int", self.chance.choice((0, 1, 10, 32767)))
        if word in ("name", "new"):
            return (word, self.name())
        return ("seek", self.named(), self.chance.choice(TEXTS)) if word == "seek" else (word,)

    def expression(self, room):
        """Make an expression that is nested at most as deeply as there is room."""
        if room <= 1 or self.chance.random() < 0.15:
            return self.leaf()
        word = self.chance.choice(("or", "and", "at", "not", "neg", "size", "bytes", "temp", "is", "as", "op", "op",
                                   "op",
                                   "get", "call"))
        return self.node(word, room - 1)

    def node(self, word, room):
        first = self.expression(room)
        if word in ("or", "and", "at"):
            return (word, first, self.expression(room))
        if word in ("is", "as"):
            return (word, first, self.named())
        if word == "op":
            return ("op", self.chance.choice(SIGNS), first, self.expression(room))
        if word == "get":
            return ("get", first, self.name())
        if word == "call":
            return self.call(room)
        return (word, first)

    def call(self, room):
        return ("call", self.expression(room), self.name(), self.many(self.expression, 3, room))

    def body(self, room):
        return self.many(self.statement, 3, room) if room > 0 else ()

    def statement(self, room):
        if room < 3:
            return self.chance.choice((("begin",), ("commit",), ("abort",), ("return", None)))
        word = self.chance.choice(("var", "set", "put", "store", "if", "while", "return", "throw", "try", "do"))
        first = self.expression(room - 1)
        if word == "var":
            return ("var", self.kind(), self.name(), first)
        if word == "set":
            return ("set", self.name(), first)
        if word == "put":
            return ("put", first, self.name(), self.expression(room - 1))
        if word == "store":
            return ("store", first, self.expression(room - 1), self.expression(room - 1))
        if word == "if":
            return ("if", first, self.body(room - 1), self.body(room - 1))
        if word == "while":
            return ("while", first, self.body(room - 1))
        if word == "try":
            return ("try", self.body(room - 1), self.name(), self.body(room - 1))
        return ("do", self.call(room - 2)) if word == "do" else (word, first)

    def pair(self):
        return (self.kind(), self.name())

    def head(self):
        return (self.name(), self.many(self.pair, 3), self.chance.choice((None, self.kind())))

    def face(self):
        return ("face", self.name(), self.many(self.head, 3))

    def method(self, room):
        return ("method",) + self.head() + (self.body(room),)

    def row(self, room):
        parent = self.chance.choice((None, self.name()))
        return ("class", self.name(), parent, self.many(self.named, 3), self.many(self.pair, 3),
                self.many(self.method, 2, room))

    def version(self):
        return self.chance.choice((0, 1, 255))

    def use(self):
        return (self.name(), self.version())

    def tree(self, room):
        return ("package", self.name(), self.version(), self.many(self.use, 2), self.many(self.face, 2),
                self.many(self.row, 2, room), self.many(self.name, 2))


def kind_text(kind):
    return kind if kind in ("int", "bytes") else ".".join(kind[1:])


def bracketed(e):
    """Return the text of an expression in which each expression stands in brackets."""
    word = e[0]
    if word in ("or", "and"):
        text = f"{bracketed(e[1])} {word} {bracketed(e[2])}"
    elif word == "op":
        text = f"{bracketed(e[2])}{' ' * (e[1] == 'mod')}{e[1]}{' ' * (e[1] == 'mod')}{bracketed(e[3])}"
    elif word == "not":
        text = f"not{bracketed(e[1])}"
    elif word == "neg":
        text = f"-{bracketed(e[1])}"
    elif word == "is":
        text = f"{bracketed(e[1])}is {kind_text(e[2])}"
    elif word == "as":
        text = f"({bracketed(e[1])}as {kind_text(e[2])})"
    elif word in ("get", "size"):
        text = f"{bracketed(e[1])}.{(e + ('size',))[2]}"
    elif word == "at":
        text = f"{bracketed(e[1])}[{bracketed(e[2])}]"
    elif word == "call":
        text = f"{bracketed(e[1])}.{e[2]}({','.join(bracketed(arg) for arg in e[3])})"
    elif word in ("bytes", "temp"):
        text = f"new {word}({bracketed(e[1])})"
    elif word == "seek":
        text = f'seek {kind_text(e[1])}"{e[2]}"'
    else:
        text = {"int": "{}", "name": "{}", "new": "new {}"}.get(word, word).format(*e[1:])
    return f"({text})"
