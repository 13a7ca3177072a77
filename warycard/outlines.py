"""What the papers of a module are about (points 901 to 905)."""

from warycard.effects import Effects
from warycard.walking import walk

# The first items of the types whose values may be foreign.
CROSSING = ("bytes", "face")
# The methods of an applet's class that the card calls.
APPLET_ROWS = ("made", "process")


class Outline:
    """The fields, the methods and the code of a module that the code checker lets pass."""

    def __init__(self, world, name):
        _, _, _, _, _, self.classes, self.methods, self.applets = world.module(name)
        # For each method, by the places that are reached, the types that are on the stack there
        # and the types that the instruction takes and puts.
        self.ways = []
        # For each method, the types of its slots.
        self.kinds = []
        for method in self.methods:
            effects = Effects(world, world.module(name), method)
            found = walk(world, world.module(name), method)
            self.ways.append({place: (kinds,) + effects.of(method[6][place]) for place, kinds in found.items()})
            self.kinds.append(effects.slot_kinds())
        # For each class, the numbers of the classes that have it as an ancestor.
        self._heirs = [[] for _ in self.classes]
        # For each class, the numbers of the classes in which its fields first stand.
        self._firsts = []
        for k, row in enumerate(self.classes):
            for above in self._ancestors(k):
                self._heirs[above].append(k)
            firsts = list(self._firsts[row[1]]) if row[1] >= 0 else []
            self._firsts.append(firsts + [k] * (len(row[3]) - len(firsts)))
        self._led = self._methods_led_to(world)

    def is_led_to(self, number):
        """Tell whether a method may be called for another owner's sake."""
        return number in self._led

    def first_class(self, k, field):
        """Return the number of the class in which a field of a class first stands."""
        return self._firsts[k][field]

    def called(self, k, row):
        """Return the numbers of the methods that a call of a row of a class may run."""
        return [self.classes[heir][4][row][3] for heir in self._heirs[k]]

    def claimable(self):
        """Return all claims that may be made, as the keys of a dict."""
        found = {}
        for k, row in enumerate(self.classes):
            for field, kind in enumerate(row[3]):
                if may_be_foreign(kind) and self.first_class(k, field) == k:
                    found[("field", k, field)] = True
        for number, method in enumerate(self.methods):
            for slot, kind in enumerate(method[2], start=1):
                if may_be_foreign(kind) and not self.is_led_to(number):
                    found[("param", number, slot)] = True
            if may_be_foreign(method[3]):
                found[("result", number)] = True
        return found

    def _ancestors(self, k):
        """Return the numbers of a class, of its parent, of the parent of its parent, and so on."""
        found = []
        while k >= 0:
            found.append(k)
            k = self.classes[k][1]
        return found

    def _methods_led_to(self, world):
        """Return the numbers of the methods of point 903, as the keys of a dict."""
        found = {}
        for k, row in enumerate(self.classes):
            names = list(APPLET_ROWS) if k in self.applets else []
            for above in self._ancestors(k):
                for _, package, face in self.classes[above][2]:
                    names.extend([head[0] for head in world.face(package, face)])
            found.update({line[3]: True for line in row[4] if line[0] in names})
        return found


def may_be_foreign(kind):
    """Tell whether a value of a type may be foreign."""
    return kind[0] in CROSSING
