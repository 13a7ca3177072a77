"""What a card asks of a package that it is given (point 1201)."""

from warycard.linking import World
from warycard.looks import judge, paper


def world_with(world, module):
    """Return another world with the modules of a world and one more, or raise BadLink."""
    other = World()
    for name in world.names():
        other.add(world.module(name))
    other.add(module)
    return other


def needless_looks(world, name, given):
    """Return the needless looks of a package by the paper that is given, or by the best one if this is None."""
    return judge(world, name, paper(world, name) if given is None else given)
