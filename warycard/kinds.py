"""The types of expressions, which their first items and numbers tell (point 307)."""

INT = ("int",)
BYTES = ("bytes",)
NULL = ("null",)
NOTHING = ("nothing",)


class Kinds:
    """The types of a package, for one of its methods."""

    def __init__(self, package, classes, slots):
        self._package = package
        self._classes = classes
        self._slots = slots

    def kind_of(self, e):
        """Return the type of an expression, or nothing if it is a call without a result."""
        match e[0]:
            case "null":
                return NULL
            case "buffer" | "bytes" | "temp":
                return BYTES
            case "slot":
                return self._slots[e[1]]
            case "get":
                return self._classes[e[2]][3][e[3]]
            case "callc" | "callf":
                return self.head_of(e)[2]
            case "new":
                return ("class", e[1])
            case "as":
                return e[2]
            case "seek":
                return e[1]
        return INT

    def head_of(self, call):
        """Return the name, the params and the result of what is called."""
        match call:
            case ("callc", _, k, row, _):
                return self._classes[k][4][row][:3]
        _, _, package, face, number, _ = call
        return self._package.heads(package, face)[number]
