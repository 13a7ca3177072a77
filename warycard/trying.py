"""The code checker (points 800 to 804)."""

from warycard.walking import walk


def try_module(world, module):
    """Raise BadCode if the code of a module may get stuck."""
    for method in module[6]:
        walk(world, module, method)
