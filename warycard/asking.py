"""Asks for what a program must keep."""

from warycard.errors import BadProgram


def ask(holds, reason):
    """Raise BadProgram for a reason, unless something holds."""
    if not holds:
        raise BadProgram(reason)
