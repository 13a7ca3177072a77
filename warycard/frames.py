"""The frames of the machine (point 1101)."""


class CodeFrame:
    """A method whose code is being run."""

    def __init__(self, home, method_number, method, keeper, slots):
        # The package and the number of the method, and the owner for whom it runs.
        self.home = home
        self.method_number = method_number
        self.keeper = keeper
        self.code = method[6]
        self.handlers = method[7]
        self.slots = slots
        self.place = 0
        self.stack = []

    def catch(self, code):
        """Let the first handler take a fault, and tell whether there is one."""
        for begin, end, at in self.handlers:
            if begin <= self.place < end:
                self.stack = [code]
                self.place = at
                return True
        return False

    def take(self, many):
        """Take values from the top of the stack, and return them, the top one last."""
        rest = len(self.stack) - many
        taken = self.stack[rest:]
        del self.stack[rest:]
        return taken
