"""The grammar of source texts, point by point, and which tokens may begin one.

This knows nothing of how the program reads: it follows all ways of the grammar
at once (as Earley has shown), so it tells the first token that point 211 refuses.
"""

MIDDLE = {
    1: ("or",), 2: ("and",), 5: ("|",), 6: ("^",), 7: ("&",), 8: ("<<", ">>"), 9: ("+", "-"), 10: ("*", "/", "mod"),
}
COMPARISONS = ("==", "!=", "<", "<=", ">", ">=")

TEXT = """
TREE = package NAME VERSION ; USES FACES CLASSES APPLETS
USES = | use NAME VERSION ; USES
FACES = | face NAME { HEADS } FACES
HEADS = | HEAD ; HEADS
CLASSES = | class NAME PARENT LISTED { FIELDS METHODS } CLASSES
PARENT = | of NAME
LISTED = | has NAMEDS
NAMEDS = NAMED | NAMED , NAMEDS
FIELDS = | field TYPE NAME ; FIELDS
METHODS = | HEAD BODY METHODS
APPLETS = | applet NAME ; APPLETS
HEAD = RESULT NAME ( PARAMS )
RESULT = nothing | TYPE
PARAMS = | SOME
SOME = TYPE NAME | TYPE NAME , SOME
TYPE = int | bytes | NAMED
NAMED = NAME | NAME . NAME
BODY = { STATEMENTS }
STATEMENTS = | STATEMENT STATEMENTS
STATEMENT = TYPE NAME = E1 ; | NAME = E1 ; | E12 . NAME = E1 ; | E12 [ E1 ] = E1 ;
STATEMENT = if ( E1 ) BODY | if ( E1 ) BODY else BODY | while ( E1 ) BODY
STATEMENT = return E1 ; | return ; | throw E1 ; | try BODY catch ( NAME ) BODY
STATEMENT = CALL ; | begin ; | commit ; | abort ;
CALL = E12 . NAME ( ARGS ) | ( CALL )
ARGS = | E1S
E1S = E1 | E1 , E1S
E3 = not E3
E4 = E5 is NAMED
E11 = - E11
E12 = ( E1 ) | ( E1 as NAMED ) | E12 . NAME | E12 . size | E12 [ E1 ] | E12 . NAME ( ARGS )
E12 = NUMBER | null | this | buffer | NAME | new NAME | new bytes ( E1 ) | new temp ( E1 ) | seek NAMED STRING
"""


def _rules():
    found = {}
    for row in TEXT.strip().split("\n"):
        left, right = row.split(" = ", 1)
        for choice in right.split("|"):
            found.setdefault(left, []).append(tuple(choice.split()))
    for rank, signs in MIDDLE.items():
        for sign in signs:
            found.setdefault(f"E{rank}", []).append((f"E{rank}", sign, f"E{rank + 1}"))
    for sign in COMPARISONS:
        found["E4"].append(("E5", sign, "E5"))
    for rank in range(1, 12):
        found.setdefault(f"E{rank}", []).append((f"E{rank + 1}",))
    return {left: tuple(rights) for left, rights in found.items()}


RULES = _rules()
EMPTY = {left for left, rights in RULES.items() if () in rights}


def classes_of(token):
    """Return the terminals that a token, written as in a text, stands for."""
    if token.isdigit():
        return ("NUMBER", "VERSION") if int(token) <= 255 else ("NUMBER",)
    if token[0] == '"':
        return ("STRING",)
    return (token,) if token in TERMINALS else ("NAME",)


TERMINALS = {
    part for rights in RULES.values() for right in rights for part in right if part not in RULES
} - {"NAME", "VERSION", "NUMBER", "STRING"}


class Chart:
    """All ways in which the tokens up to here may be read."""

    def __init__(self):
        self.columns = []
        self._close({("TREE", right, 0, 0) for right in RULES["TREE"]})

    def _close(self, found):
        """Add a column: entries are a left side, its right side, the place in it, and the column of its begin."""
        here = len(self.columns)
        self.columns.append(found)
        work = list(found)
        while work:
            left, right, place, begin = work.pop()
            if place == len(right):
                new = [(a, b, c + 1, d) for a, b, c, d in self.columns[begin] if c < len(b) and b[c] == left]
            elif right[place] in RULES:
                new = [(right[place], choice, 0, here) for choice in RULES[right[place]]]
                if right[place] in EMPTY:
                    new.append((left, right, place + 1, begin))
            else:
                continue
            for entry in new:
                if entry not in found:
                    found.add(entry)
                    work.append(entry)

    def takes(self, token):
        """Go on with a token, and tell whether a text may begin so; if not, nothing changes."""
        wanted = classes_of(token)
        found = {(a, b, c + 1, d) for a, b, c, d in self.columns[-1] if c < len(b) and b[c] in wanted}
        if found:
            self._close(found)
        return bool(found)

    def drop(self):
        """Go back by one token."""
        self.columns.pop()

    def is_whole(self):
        """Tell whether the text may end here."""
        return any(a == "TREE" and c == len(b) for a, b, c, _ in self.columns[-1])

    def choices(self):
        """Return the terminals that may follow, in order."""
        return sorted({b[c] for a, b, c, _ in self.columns[-1] if c < len(b) and b[c] not in RULES})


def first_refused(row):
    """Return the number of the first token that is refused, from 0; the number of tokens if the text ends too early;
    or None if a text has these tokens."""
    chart = Chart()
    for at, token in enumerate(row):
        if not chart.takes(token):
            return at
    return None if chart.is_whole() else len(row)
