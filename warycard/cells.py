"""The cells, which keep their contents without power (point 1001)."""

from warycard.errors import PowerCut


class Cells:
    """Cells that each hold a word."""

    def __init__(self, count):
        self._words = [0] * count
        self._power = True
        # The number of writes up to the failure of the power, or None.
        self._left = None

    def read(self, place):
        """Return the word in a cell."""
        self._ask_power()
        return self._words[place]

    def write(self, place, word):
        """Put a word into a cell, unless the power fails in its place."""
        if self._left == 0:
            self._power = False
        self._ask_power()
        if self._left is not None:
            self._left -= 1
        self._words[place] = word

    def cut(self, writes):
        """Let the power fail behind a number of writes."""
        self._left = writes

    def restore(self):
        """Switch the power on, and forget a cut."""
        self._power = True
        self._left = None

    def on(self):
        """Tell whether there is power."""
        return self._power

    def _ask_power(self):
        if not self._power:
            raise PowerCut()
