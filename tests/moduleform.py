"""Points 501 to 505, word by word: whether a value is a module."""

from string import ascii_letters, digits

from warycard.words import SIGNS

SIMPLE = {"null", "pop", "neg", "not", "same", "at", "setat", "size", "bytes", "temp", "return", "returnv", "throw",
          "buffer", "begin", "commit", "abort", "step"}


class Wrong(Exception):
    """Something is not as it should be."""


def need(holds):
    if not holds:
        raise Wrong()


def is_right(value):
    try:
        need_plain(value, 0)
        need_module(value)
    except (Wrong, IndexError, KeyError, TypeError, ValueError):
        return False
    return True


def need_plain(value, depth):
    """Ask that there is nothing but tuples, integers and strings."""
    need(depth < 20 and type(value) in (tuple, int, str))
    if type(value) is tuple:
        for item in value:
            need_plain(item, depth + 1)


def need_number(value, least, greatest):
    need(type(value) is int and least <= value <= greatest)


def need_name(value):
    need(type(value) is str and 1 <= len(value) <= 20 and value[0] in ascii_letters)
    need(all(letter in ascii_letters + digits for letter in value))


def need_list(value):
    need(type(value) is tuple and len(value) <= 60)


def need_differ(row):
    need(len(row) == len(set(row)))


def need_module(value):
    word, name, version, uses, faces, classes, methods, applets = value
    need(word == "module")
    need_name(name)
    need_number(version, 0, 255)
    for row in (uses, faces, classes, applets):
        need_list(row)
    for package, number in uses:
        need_name(package)
        need_number(number, 0, 255)
    used = [package for package, _ in uses]
    need_differ(used + [name])
    heads = {}
    for face, rows in faces:
        need_name(face)
        need(face not in heads)
        need_list(rows)
        heads[face] = len(rows)

    def need_face(kind):
        word, package, face = kind
        need(word == "face")
        need_name(package)
        need_name(face)
        need(package in used or package == name and face in heads)

    def need_kind(kind):
        if kind[0] in ("int", "bytes"):
            need(len(kind) == 1)
        elif kind[0] == "class":
            need(len(kind) == 2)
            need_number(kind[1], 0, len(classes) - 1)
        else:
            need_face(kind)

    def need_head(method, params, result):
        need_name(method)
        need_list(params)
        for kind in params:
            need_kind(kind)
        if result != ("nothing",):
            need_kind(result)

    for _, rows in faces:
        for method, params, result in rows:
            need_head(method, params, result)
            need(all(kind[0] != "class" for kind in params + (result,)))
        need_differ([row[0] for row in rows])
    for k, (word, parent, listed, fields, rows) in enumerate(classes):
        need_name(word)
        need_number(parent, -1, k - 1)
        for row in (listed, fields, rows):
            need_list(row)
        for kind in listed:
            need_face(kind)
        need_differ(listed)
        for kind in fields:
            need_kind(kind)
        for method, params, result, number in rows:
            need_head(method, params, result)
            need_number(number, 0, len(methods) - 1)
        need_differ([row[0] for row in rows])
        above = classes[parent] if parent >= 0 else ("", -1, (), (), ())
        need(fields[:len(above[3])] == above[3])
        need([row[:3] for row in rows][:len(above[4])] == [row[:3] for row in above[4]])
    need_differ([row[0] for row in classes])
    need(type(methods) is tuple and len(methods) <= 120)
    for k, method, params, result, variables, stack, code, handlers in methods:
        need_number(k, 0, len(classes) - 1)
        need_head(method, params, result)
        need_list(variables)
        for kind in variables:
            need_kind(kind)
        need_number(stack, 0, 300)
        need(type(code) is tuple and 1 <= len(code) <= 2000)
        need(type(handlers) is tuple and len(handlers) <= 300)
        for first, last, at in handlers:
            need(type(first) is int and type(last) is int and type(at) is int)
            need(0 <= first < last <= len(code) and first < len(code) and 0 <= at < len(code))
        for instruction in code:
            slots = 1 + len(params) + len(variables)
            need_instruction(instruction, slots, len(code), classes, name, heads, used, need_face, need_kind)
    need(all(one[0] <= other[0] for one, other in zip(methods, methods[1:])))
    for number, method in enumerate(methods):
        need((method[1], method[2], method[3], number) in classes[method[0]][4])
    for k, row in enumerate(classes):
        for place, line in enumerate(row[4]):
            if methods[line[3]][:4] != (k,) + line[:3]:
                need(row[1] >= 0)
                need(classes[row[1]][4][place][3] == line[3])
    for k in applets:
        need_number(k, 0, len(classes) - 1)
    need(all(one < other for one, other in zip(applets, applets[1:])))


def need_instruction(instruction, slots, places, classes, name, heads, used, need_face, need_kind):
    word, rest = instruction[0], instruction[1:]
    if word in SIMPLE:
        need(rest == ())
    elif word == "const":
        need(len(rest) == 1)
        need_number(rest[0], -32768, 32767)
    elif word in ("load", "store"):
        need(len(rest) == 1)
        need_number(rest[0], 0, slots - 1)
    elif word == "op":
        need(len(rest) == 1 and rest[0] in SIGNS)
    elif word in ("jump", "jumpif", "jumpnot"):
        need(len(rest) == 1)
        need_number(rest[0], 0, places - 1)
    elif word in ("get", "put", "callc"):
        k, place = rest
        need_number(k, 0, len(classes) - 1)
        need_number(place, 0, len(classes[k][4 if word == "callc" else 3]) - 1)
    elif word == "new":
        need(len(rest) == 1)
        need_number(rest[0], 0, len(classes) - 1)
    elif word == "callf":
        package, face, number = rest
        need_face(("face", package, face))
        need_number(number, 0, 59 if package in used else heads[face] - 1)
    elif word in ("is", "as"):
        need(len(rest) == 1 and rest[0][0] in ("class", "face"))
        need_kind(rest[0])
    else:
        need(word == "seek")
        kind, text = rest
        need_face(kind)
        need(type(text) is str and 1 <= len(text) <= 16)
        need(all(" " <= letter <= "~" and letter not in ('"', chr(37)) for letter in text))
