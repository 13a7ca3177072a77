"""Plain cards with packages that are given as texts."""

from warycard.checking import check
from warycard.plain import PlainCard
from warycard.syntax import parse

OK, OFF = ("ok",), ("off",)


def cores_of(*texts):
    """Return the core trees of texts, each of which may use those ahead of it."""
    used, found = {}, []
    for text in texts:
        core = check(parse(text), used)
        used[core[1]] = (core[2], core[4])
        found.append(core)
    return found


def card_of(*texts):
    """Return a card with packages."""
    card = PlainCard()
    for core in cores_of(*texts):
        assert card.load(core) == OK
    return card


def fault(code):
    return ("fault", code)


def refused(reason):
    return ("refused", reason)


# A class with a log in the buffer: its place 63 counts the entries, which stand at the places from 0 on.
MEMBERS = """
    field int n; field bytes b; field A a; field F f; field B heir;
    nothing made(int many) { }
    int log(int k) { buffer[buffer[63]] = k; buffer[63] = buffer[63] + 1; return k; }
    A me(int k) { this.log(k); return this; }
    A none(int k) { this.log(k); return null; }
    bytes row(int k) { this.log(k); return new temp(3); }
    bytes norow(int k) { this.log(k); return null; }
    int show(int k) { buffer[0] = k >> 8; buffer[1] = k; return 2; }
    nothing quiet(int i, int j) { }
    int back(int i) { return i; }
"""


def program(body, members="", fields="", name="p"):
    """Return the text of a package with the class A, which has a method process with a body."""
    return (f"package {name} 1; face F {{ int back(int i); int twice(int i); }} face G {{ }} class B of A has G {{ {fields} "
            f"int twice(int i) {{ return i + i; }} }} class A has F {{ {MEMBERS} int twice(int i) {{ return 2 * i + 1; }} "
            f"int process(int many) {{ {body} }} {members} }} class D {{ }} applet A; applet B;")


def ready(body, members="", fields=""):
    """Return a card with an applet of the class A, which is chosen."""
    card = card_of(program(body, members, fields))
    assert card.make("p", "A", "one", ()) == OK
    assert card.choose(0, "one") == OK
    return card


def answer(body, data=(), members=""):
    """Return what a message is answered; the body need not end."""
    return ready("if (1) { " + body + " } return 0;", members).send(0, data)


def value(e, ahead="", members=""):
    """Return the integer that an expression has, or the answer if it is a fault."""
    found = answer(f"{ahead} return this.show({e});", (), members)
    if found[0] != "ok":
        return found
    number = found[1][0] * 256 + found[1][1]
    return number - 65536 if number > 32767 else number


def log_of(body, members=""):
    """Return what a body logs; a fault that ends the body is the last entry."""
    found = answer("try { if (1) { " + body + " } } catch (fault) { buffer[62] = fault; return 63; } return 0 - 1;", (), members)
    if found == refused("size"):
        return None
    row = found[1]
    end = row.index(0)
    return row[:end] + (row[62] - 256,)
