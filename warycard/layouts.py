"""The order in which a module is written as bytes (point 507).

A layout is a word for something that is written in its own way, or a tuple of
a word and more: "list" and the layout of the items, or "tuple" and the layouts
of all items.
"""

HEAD = ("tuple", "string", ("list", "kind"), "kind")
FACE = ("tuple", "string", ("list", HEAD))
ROW = ("tuple", "string", ("list", "kind"), "kind", "number")
CLASS = ("tuple", "string", "parent", ("list", "kind"), ("list", "kind"), ("list", ROW))
HANDLER = ("tuple", "number", "number", "number")
METHOD = (
    "tuple", "number", "string", ("list", "kind"), "kind", ("list", "kind"), "number", ("list", "instruction"),
    ("list", HANDLER),
)
# The first item of a module, the word "module", is left out.
MODULE = (
    "tuple", "string", "number", ("list", ("tuple", "string", "number")), ("list", FACE), ("list", CLASS),
    ("list", METHOD), ("list", "number"),
)
# The first items of kinds and results, in the order of their numbers, and what follows behind them.
KINDS = ("int", "bytes", "nothing", "class", "face")
KIND_PARTS = ((), (), (), ("number",), ("string", "string"))


def operand_layout(part):
    """Return the layout of an operand of an instruction, by its word in OPERANDS."""
    match part:
        case "word" | "sign":
            return part
        case "object" | "seen":
            return "kind"
        case "package" | "face" | "text":
            return "string"
    return "number"
