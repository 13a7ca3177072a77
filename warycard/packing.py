"""The bytes of modules (points 507 to 510)."""

from warycard.errors import BadModule, BadPackage
from warycard.layouts import MODULE
from warycard.modules import is_module
from warycard.reader import Reader
from warycard.texts import is_integer
from warycard.writer import Writer, digits

FRONT = (119, 99)
DIVISOR = 16777213


def pack(module):
    """Return the bytes of a module."""
    if not is_module(module):
        raise BadModule()
    return _bytes_of(module)


def _bytes_of(module):
    writer = Writer()
    writer.write(module[1:], MODULE)
    strings = writer.strings()
    row = list(FRONT) + digits(len(strings))
    for text in strings:
        row += digits(len(text)) + [ord(letter) for letter in text]
    row += writer.written()
    return tuple(row) + _sum_bytes(row)


def unpack(row):
    """Return the module that has some bytes."""
    if not isinstance(row, tuple) or not all([is_integer(byte, 0, 255) for byte in row]):
        raise BadPackage()
    reader = Reader(row[2:-3])
    reader.read_strings()
    module = ("module",) + reader.read(MODULE)
    # Each module has exactly one row of bytes. So what is refused here is a wrong front, a wrong sum,
    # bytes that were not read, and all other ways to write a module.
    if not is_module(module) or _bytes_of(module) != row:
        raise BadPackage()
    return module


def _sum_bytes(row):
    total = 0
    for place, byte in enumerate(row, start=1):
        total += place * byte
    rest = total % DIVISOR
    return (rest // 65536, rest // 256 % 256, rest % 256)
