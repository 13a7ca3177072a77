"""The tables of classes (point 305)."""


def rows_with(above, k, methods):
    """Return the table of a class from that of its parent and the methods that it defines."""
    names = [row[0] for row in above]
    table = list(above)
    for place, method in enumerate(methods):
        name, params, result = method[:3]
        row = (name, params, result, k, place)
        if name in names:
            table[names.index(name)] = row
        else:
            table.append(row)
    return tuple(table)


def first_with(rows, name):
    """Return the first row that has a name, or None."""
    for row in rows:
        if row[0] == name:
            return row
    return None
