"""Points 507 and 508, word by word: the bytes of a module."""

from warycard.instructions import NAMES
from warycard.words import SIGNS


def number_bytes(number):
    found = []
    while True:
        number, digit = divmod(number, 128)
        found.append(digit)
        if number == 0:
            return [128 + digit for digit in found[:-1]] + found[-1:]


def with_sum(row):
    """Return bytes with the three bytes of their sum behind them."""
    rest = sum(place * byte for place, byte in enumerate(row, start=1)) % 16777213
    return tuple(row) + (rest // 65536, rest // 256 % 256, rest % 256)


def put_together(strings, body):
    """Return the bytes of a package from its strings and what point 507 writes."""
    row = [119, 99] + number_bytes(len(strings))
    for text in strings:
        row += number_bytes(len(text)) + [ord(letter) for letter in text]
    return with_sum(row + body)


def bytes_of(module):
    strings, body = parts_of(module)
    return put_together(strings, body)


def parts_of(module):
    """Return the strings of a module, and what point 507 writes for it."""
    strings, out = {}, []

    def number(value):
        out.extend(number_bytes(value))

    def string(text):
        number(strings.setdefault(text, len(strings)))

    def row(items, write):
        number(len(items))
        for item in items:
            write(item)

    def kind(value):
        number(["int", "bytes", "nothing", "class", "face"].index(value[0]))
        for item in value[1:]:
            string(item) if isinstance(item, str) else number(item)

    def use(value):
        string(value[0])
        number(value[1])

    def head(value):
        string(value[0])
        row(value[1], kind)
        kind(value[2])

    def face(value):
        string(value[0])
        row(value[1], head)

    def line(value):
        head(value[:3])
        number(value[3])

    def class_(value):
        string(value[0])
        number(value[1] + 1)
        row(value[2], kind)
        row(value[3], kind)
        row(value[4], line)

    def instruction(value):
        number(NAMES.index(value[0]))
        for item in value[1:]:
            if value[0] == "const":
                number(2 * item if item >= 0 else -2 * item - 1)
            elif value[0] == "op":
                number(SIGNS.index(item))
            elif isinstance(item, tuple):
                kind(item)
            elif isinstance(item, str):
                string(item)
            else:
                number(item)

    def handler(value):
        for item in value:
            number(item)

    def method(value):
        number(value[0])
        head(value[1:4])
        row(value[4], kind)
        number(value[5])
        row(value[6], instruction)
        row(value[7], handler)

    string(module[1])
    number(module[2])
    for part, write in zip(module[3:], (use, face, class_, method, number)):
        row(part, write)
    return list(strings), out
