"""The lines of scripts that are calls (points 1301 and 1302)."""

from warycard.limits import MOST_BUFFER
from warycard.texts import is_name, is_text

MOST_NUMBER = 9999
# What stands behind the first word of a line.
FORMS = {
    "make": ("name", "name", "text", "bytes"),
    "choose": ("number", "text"),
    "send": ("number", "bytes"),
    "drop": ("text",),
    "collect": (),
    "cut": ("number",),
    "reset": ("number",),
}


def call_of(line):
    """Return the call that a line is, or None if it is none."""
    word, *parts = _parts(line)
    if word == "reset" and len(parts) == 0:
        return ("reset", None)
    forms = FORMS.get(word)
    if forms is None or len(parts) != len(forms):
        return None
    found = [_value(part, form) for part, form in zip(parts, forms)]
    return None if None in found else (word,) + tuple(found)


def _parts(line):
    """Return the parts of a line; a part that is a text keeps its quotes, and no other part has one."""
    if '"' not in line:
        return line.split(" ")
    ahead, _, rest = line.partition('"')
    text, quote, behind = rest.partition('"')
    if quote == "" or '"' in behind or not ahead.endswith(" ") or not (behind == "" or behind.startswith(" ")):
        return [""]
    return ahead[:-1].split(" ") + ['"' + text + '"'] + behind.split(" ")[1:]


def _value(part, form):
    """Return what a part of a line stands for, or None if it has not its form."""
    match form:
        case "name":
            return part if is_name(part) else None
        case "text":
            return part[1:-1] if part.startswith('"') and is_text(part[1:-1]) else None
        case "number":
            return _number(part, MOST_NUMBER)
    return () if part == "-" else _bytes(part.split(","))


def _bytes(items):
    found = [_number(item, 255) for item in items]
    return None if None in found or len(found) > MOST_BUFFER else tuple(found)


def _number(part, most):
    """Return the integer that a part is, or None if it is none, or too great."""
    # The length comes first: Python does not read numbers of thousands of digits.
    if len(part) > len(str(most)) or not part.isascii() or not part.isdigit() or part[0] == "0" and part != "0":
        return None
    number = int(part)
    return number if number <= most else None
