"""The order in which a module is written as bytes (point 507).

A layout is a word for something that is written in its own way, or a tuple of
a word and more: "list" and the layout of the items, or "tuple" and the layouts
of all items.
"""

# The first item of a module, the word "module", is left out.
MODULE = (
    "tuple",
    "string",
    "number",
    # The used packages.
    ("list", ("tuple", "string", "number")),
    # The faces, each with its heads.
    ("list", ("tuple", "string", ("list", ("tuple", "string", ("list", "kind"), "kind")))),
    # The classes, each with its rows.
    ("list", (
        "tuple", "string", "parent", ("list", "kind"), ("list", "kind"),
        ("list", ("tuple", "string", ("list", "kind"), "kind", "number")),
    )),
    # The methods, each with its handlers.
    ("list", (
        "tuple", "number", "string", ("list", "kind"), "kind", ("list", "kind"), "number", ("list", "instruction"),
        ("list", ("tuple", "number", "number", "number")),
    )),
    # The applets.
    ("list", "number"),
)
# The first items of kinds and results, in the order of their numbers, and what follows behind them.
KINDS = ("int", "bytes", "nothing", "class", "face")
KIND_PARTS = ((), (), (), ("number",), ("string", "string"))


def operand_layout(part):
    """Return the layout of an operand of an instruction, by its word in OPERANDS."""
    match part:
        case "word" | "sign":
            return part
        case "object" | "seen":
            return "kind"
        case "package" | "face" | "text":
            return "string"
    return "number"
