"""The names of the instructions (point 505)."""

NAMES = (
    "const", "null", "load", "store", "pop", "neg", "not", "op", "same", "jump", "jumpif", "jumpnot", "get", "put",
    "at", "setat", "size", "new", "bytes", "temp", "callc", "callf", "return", "returnv", "throw", "is", "as", "seek",
    "buffer", "begin", "commit", "abort", "step",
)
