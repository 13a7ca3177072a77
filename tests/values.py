"""Values of all sorts, for functions that accept any value."""

DEEP = ()
for _ in range(5000):
    DEEP = (DEEP,)


class Rude:
    """A value that cannot be compared or hashed."""

    def __eq__(self, other):
        raise RuntimeError("no comparison")

    __hash__ = None


ANY = (
    None, True, False, 0, 1, -1, 7, 10 ** 40, -10 ** 40, 10 ** 5000, 1.0, 0.5, float("nan"), 1j,
    "", "a", "if", "a b", "\n", "\x00", "\u00e9", "\ud800", "9" * 6000, b"", b"a", b"package",
    [], [1], ["package"], (), (1,), (None,), ("package",), ({},), ([],), {}, {"a": 1}, set(), frozenset(), object(),
    len, int, Rude(), (Rude(),), DEEP, Ellipsis, range(3),
)
