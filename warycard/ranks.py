"""The ranks of the expressions (point 207)."""

# The operators that stand between two sides, by the word or sign in the text.
MIDDLE = {
    "or": 1,
    "and": 2,
    "==": 4,
    "!=": 4,
    "<": 4,
    "<=": 4,
    ">": 4,
    ">=": 4,
    "is": 4,
    "|": 5,
    "^": 6,
    "&": 7,
    "<<": 8,
    ">>": 8,
    "+": 9,
    "-": 9,
    "*": 10,
    "/": 10,
    "mod": 10,
}
NOT_RANK = 3
COMPARE_RANK = 4
NEG_RANK = 11
WHOLE_RANK = 12
