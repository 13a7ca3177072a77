"""Source texts of packages that do much, made by chance, and calls for a card that has them."""

from random import Random

NAMES = ("one", "two", "three", "four")
BANK = """package bank 1;
face Pay { int pay(int n, bytes b); Pay peer(Pay p); bytes row(bytes b); }
"""
# What stands in the bodies of all methods; K is a small integer, X an expression.
STATEMENTS = (
    "this.n = X;", "this.n = this.n + K;", "this.b = new bytes(K);", "this.t = new temp(K);", "this.b[K] = X;", "this.t[K] = X;",
    "buffer[K] = X;", "Base x = new Heir; x.next = this.next; this.next = x; x.n = X;", "this.next = (this.next as Heir);",
    "Base x = new Base; x.b = this.b; x.o = this; this.next = x;", "this.next = null;", "this.next = this.next.next;",
    "this.p = seek bank.Pay WHO;", "this.p = this.p.peer(this.p);", "this.n = this.p.pay(X, this.b);", "this.b = this.p.row(this.b);",
    "this.o = seek Own WHO;", "this.o = seek Own WHO;", "this.o = seek Own WHO; this.n = this.o.told(this.b, 0);", "this.o = this.o.other(this.o, X);", "this.o = this;", "this.n = this.o.told(this.b, X);",
    "this.b = this.o.more(X);", "this.n = (this.o as Base).n;", "(this.o as Heir).b = new bytes(K);", "this.n = (this.o is Base);",
    "begin; this.n = X; this.n = this.n + 1; this.b[K] = X; commit;", "begin; this.n = X; this.b = null; abort;", "begin;", "commit;",
    "abort;", "begin; this.next = new Heir; this.n = X;", "int i = 0; while (i < K) { i = i + 1; this.n = this.n + i; }",
    "int i = 0; while (i < 2 * K) { i = i + 1; this.t[i] = i; }", "int i = 0; begin; while (i < 12) { i = i + 1; this.n = i; } commit;",
    "while (1) { this.b = new bytes(K); }", "this.step(k - 1);", "this.next.step(k - 1);", "throw X;", "this.n = this.b.size + this.t.size;",
    "bytes d = this.b; this.b = buffer;", "bytes d = this.o.more(K); d[K] = X;", "this.n = X / (this.n & 3);",
)
VALUES = ("K", "this.n", "this.b[K]", "this.t[K]", "buffer[K]", "k", "buffer.size", "this.n * K", "this.n - k", "(this.n and k)", "not k")


class Lively:
    """Makes the texts of packages."""

    def __init__(self, seed):
        self.chance = Random(seed)

    def value(self):
        return self.chance.choice(VALUES).replace("K", str(self.chance.choice((0, 1, 2, 3, 5, 9))))

    def statement(self, home):
        text = self.chance.choice(STATEMENTS)
        while home == "bank" and ("bank." in text or "this.p" in text):
            text = self.chance.choice(STATEMENTS)
        while "X" in text:
            text = text.replace("X", self.value(), 1)
        text = text.replace("K", str(self.chance.choice((0, 1, 2, 3, 4, 7)))).replace("WHO", '"' + self.chance.choice(NAMES) + '"')
        if self.chance.random() < 0.9:
            text = "try { " + text + " } catch (f) { " + self.chance.choice(("", "this.n = f;", "this.n = this.n - f;", "abort;")) + " }"
        return "if (1) { " + text + " }"

    def body(self, home, most):
        return " ".join(self.statement(home) for _ in range(self.chance.randint(1, most)))

    def own(self, home, name):
        """Return the text of the faces and the classes that each package has."""
        pay = "" if home == "bank" else " has bank.Pay"
        pays = "" if home == "bank" else "field bank.Pay p;"
        rows = "" if home == "bank" else f"""
            int pay(int k, bytes c) {{ {self.body(home, 3)} return k + c.size; }}
            bank.Pay peer(bank.Pay p) {{ int k = 3; {self.body(home, 2)} return this; }}
            bytes row(bytes c) {{ this.b = c; return this.t; }}"""
        return f"""
            face Own {{ int told(bytes c, int k); Own other(Own o, int k); bytes more(int k); }}
            class Base has Own {{
                field int n; field bytes b; field bytes t; field Base next; field Own o; {pays}
                nothing made(int k) {{ this.b = new bytes(4); this.t = new temp(3); {self.body(home, 4)} }}
                int process(int k) {{ {self.body(home, 8)} buffer[0] = this.n; return k + {self.chance.choice("0123")}; }}
                nothing step(int k) {{ {self.body(home, 3)} }}
                int told(bytes c, int k) {{ {self.body(home, 3)} return c[k]; }}
                Own other(Own o, int k) {{ this.o = o; {self.body(home, 2)} return this; }}
                bytes more(int k) {{ {self.body(home, 2)} return this.b; }}
            }}
            class Heir of Base{pay} {{
                field int m;
                nothing step(int k) {{ this.m = k; {self.body(home, 3)} }}
                bytes more(int k) {{ this.b[0] = k; return new bytes(k & 3); }} {rows}
            }}
            applet Base; applet Heir;"""

    def texts(self):
        """Return the texts of three packages, each of which may use those ahead of it."""
        return (BANK + self.own("bank", "bank"), "package shop 2; use bank 1;" + self.own("shop", "shop"),
                "package home 3; use bank 1;" + self.own("home", "home"))

    def calls(self, many):
        """Return calls that are made by chance, without those for the power."""
        chance = self.chance
        found = []
        for place in range(many):
            kind = chance.choice(("make", "choose", "choose", "send", "send", "send", "send", "send", "send", "drop", "collect"))
            if place < 7:
                kind = ("make", "make", "choose", "make", "choose", "make", "send")[place]
            data = tuple(chance.randrange(7) for _ in range(chance.randrange(4)))
            if kind == "make":
                name = NAMES[(0, 1, 0, 2, 0, 3)[place]] if place < 6 else chance.choice(NAMES)
                found.append((kind, chance.choice(("bank", "shop", "home")), chance.choice(("Base", "Heir")), name, data))
            elif kind == "choose":
                found.append((kind, chance.randrange(2), chance.choice(NAMES)))
            elif kind == "send":
                found.append((kind, chance.randrange(2), data))
            elif kind == "drop":
                found.append((kind, chance.choice(NAMES)))
            else:
                found.append((kind,))
        return found
