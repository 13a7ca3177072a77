"""Runs methods, as core trees and as code, with an oracle in the place of all that lies outside of the method."""

from random import Random

from warycard.words import op, wrap

# The instructions whose values and faults the oracle gives.
OUTSIDE = ("get", "put", "at", "setat", "size", "new", "bytes", "temp", "callc", "callf", "is", "as", "seek", "buffer",
           "begin", "commit", "abort", "step")
# How many values the instructions of OUTSIDE take and give, but for calls.
ARITIES = {"get": (1, 1), "put": (2, 0), "at": (2, 1), "setat": (3, 0), "size": (1, 1), "new": (0, 1), "bytes": (1, 1),
           "temp": (1, 1), "is": (1, 1), "as": (1, 1), "seek": (0, 1), "buffer": (0, 1), "begin": (0, 0),
           "commit": (0, 0), "abort": (0, 0), "step": (0, 0)}


class Failed(Exception):
    """A fault."""


class Stopped(Exception):
    """The oracle was asked often enough."""


class Returned(Exception):
    """The end of a method that is run as a tree."""


class Oracle:
    def __init__(self, seed, faults=0.15, most=60):
        self.chance = Random(seed)
        self.faults, self.most = faults, most
        self.asked = []

    def give(self, *question):
        self.asked.append(question)
        if len(self.asked) > self.most:
            raise Stopped()
        code, worth = self.chance.choice((-10, -3, -1, 0, 5)), self.chance.choice((0, 0, 1, 1, 2, -1, 300, -32768))
        if self.chance.random() < self.faults:
            raise Failed(code)
        return worth


def calls_of(node, found):
    """Add how many values the calls in a part of a tree take and give."""
    if isinstance(node, tuple):
        if node and node[0] == "do":
            calls_of(node[1], found)
            if node[2] == ("nothing",):
                found[instruction_of(node[1])] = (len(node[1][-1]) + 1, 0)
            return
        if node and node[0] in ("callc", "callf"):
            found[instruction_of(node)] = (len(node[-1]) + 1, 1)
        for part in node:
            calls_of(part, found)


def instruction_of(call):
    return (call[0],) + call[2:-1]


def run_tree(body, slots, oracle):
    """Run a body; return how it ends."""
    try:
        run_body(body, slots, oracle)
        return ("return",)
    except Returned as end:
        return end.args
    except Failed as fault:
        return ("fault",) + fault.args
    except Stopped:
        return ("stopped",)


def run_body(body, slots, oracle):
    for statement in body:
        run_statement(statement, slots, oracle)


def run_statement(statement, slots, oracle):
    word = statement[0]
    if word == "set":
        slots[statement[1]] = value_of(statement[2], slots, oracle)
    elif word == "put":
        row = [value_of(statement[1], slots, oracle), value_of(statement[4], slots, oracle)]
        oracle.give("put", statement[2], statement[3], *row)
    elif word == "store":
        oracle.give("setat", *[value_of(e, slots, oracle) for e in statement[1:]])
    elif word == "if":
        run_body(statement[2] if value_of(statement[1], slots, oracle) != 0 else statement[3], slots, oracle)
    elif word == "while":
        oracle.give("step")
        while value_of(statement[1], slots, oracle) != 0:
            run_body(statement[2], slots, oracle)
            oracle.give("step")
    elif word == "return":
        raise Returned(*(("return",) if statement[1] is None else ("returnv", value_of(statement[1], slots, oracle))))
    elif word == "throw":
        raise Failed(value_of(statement[1], slots, oracle))
    elif word == "try":
        try:
            run_body(statement[1], slots, oracle)
        except Failed as fault:
            slots[statement[2]] = fault.args[0]
        else:
            return
        run_body(statement[3], slots, oracle)
    elif word == "do":
        value_of(statement[1], slots, oracle)
    else:
        oracle.give(word)


def value_of(e, slots, oracle):
    word = e[0]
    if word == "int":
        return e[1]
    if word == "slot":
        return slots[e[1]]
    if word == "null":
        return 0
    if word in ("and", "or"):
        if (value_of(e[1], slots, oracle) != 0) == (word == "or"):
            return int(word == "or")
        return int(value_of(e[2], slots, oracle) != 0)
    if word in ("callc", "callf"):
        row = [value_of(part, slots, oracle) for part in (e[1],) + e[-1]]
        return oracle.give(*instruction_of(e), *row)
    rest = [part for part in e[1:] if not (isinstance(part, tuple) and is_expression(word, part))]
    row = [value_of(part, slots, oracle) for part in e[1:] if isinstance(part, tuple) and is_expression(word, part)]
    if word in ("neg", "not", "op", "same"):
        return compute((word, *rest), row)
    return oracle.give(word, *rest, *row)


def is_expression(word, part):
    """Tell an operand of an expression from a type."""
    return part[0] not in ("class", "face") and word != "seek"


def compute(instruction, row):
    if instruction[0] == "neg":
        return wrap(-row[0])
    if instruction[0] == "not":
        return int(row[0] == 0)
    if instruction[0] == "same":
        return int(row[0] == row[1])
    found = op(instruction[1], *row)
    if found is None:
        raise Failed(-3)
    return found


def run_code(method, slots, oracle, calls):
    """Run the code of a method; return how it ends."""
    _, _, _, _, _, height, code, handlers = method
    place, stack = 0, []
    try:
        while True:
            word = code[place][0]
            if word in ("return", "returnv"):
                return ("return",) if word == "return" else ("returnv", stack[-1])
            try:
                place = step(code[place], place, stack, slots, oracle, calls)
            except Failed as fault:
                ats = [at for first, last, at in handlers if first <= place < last]
                if not ats:
                    return ("fault",) + fault.args
                place, stack = ats[0], [fault.args[0]]
            assert len(stack) <= height
    except Stopped:
        return ("stopped",)


def changes_of(instruction, calls):
    """Return how many values an instruction takes from the stack, and how many it puts there."""
    word = instruction[0]
    if word in ("const", "null", "load"):
        return 0, 1
    if word in ("store", "pop", "jumpif", "jumpnot", "throw", "returnv"):
        return 1, 0
    if word in ("neg", "not"):
        return 1, 1
    if word in ("op", "same"):
        return 2, 1
    if word in ("jump", "return"):
        return 0, 0
    return calls[instruction] if word in ("callc", "callf") else ARITIES[word]


def stack_of(method, calls):
    """Return the greatest height of the stack of a method."""
    code, handlers = method[6:]
    found, waiting = {}, [(0, 0)]
    while waiting:
        place, height = waiting.pop()
        if place in found:
            assert found[place] == height
            continue
        found[place] = height
        word = code[place][0]
        takes, gives = changes_of(code[place], calls)
        assert height >= takes
        after = height - takes + gives
        if word not in ("jump", "return", "returnv", "throw"):
            waiting.append((place + 1, after))
        if word.startswith("jump"):
            waiting.append((code[place][1], after))
        waiting.extend((at, 1) for first, last, at in handlers if first <= place < last)
    heights = [max(height, height - takes + gives) for place, height in found.items()
               for takes, gives in [changes_of(code[place], calls)]]
    return max(heights)


def step(instruction, place, stack, slots, oracle, calls):
    """Run an instruction, and return the place behind it."""
    word, rest = instruction[0], instruction[1:]
    if word in ("const", "null", "load"):
        stack.append(rest[0] if word == "const" else 0 if word == "null" else slots[rest[0]])
    elif word == "store":
        slots[rest[0]] = stack.pop()
    elif word == "pop":
        stack.pop()
    elif word == "jump":
        return rest[0]
    elif word in ("jumpif", "jumpnot"):
        return rest[0] if (stack.pop() != 0) == (word == "jumpif") else place + 1
    elif word == "throw":
        raise Failed(stack.pop())
    elif word in ("neg", "not", "op", "same"):
        many = 1 if word in ("neg", "not") else 2
        row = [stack.pop() for _ in range(many)][::-1]
        stack.append(compute(instruction, row))
    else:
        takes, gives = calls[instruction] if word in ("callc", "callf") else ARITIES[word]
        row = [stack.pop() for _ in range(takes)][::-1]
        found = oracle.give(word, *rest, *row)
        stack.extend([found] * gives)
    return place + 1
