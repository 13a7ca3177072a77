"""The errors that the program raises (point 102)."""


class CardError(ValueError):
    """The base of all errors of the program."""


class BadSource(CardError):
    """A text is no source text of a package."""

    def __init__(self, line, reason):
        self.line = line
        self.reason = reason


class BadTree(CardError):
    """A value is no source tree, or no core tree."""


class BadProgram(CardError):
    """The names or types of a source tree do not fit."""

    def __init__(self, reason):
        self.reason = reason


class BadModule(CardError):
    """A value is no module."""


class BadPackage(CardError):
    """Bytes are not those of a module."""


class BadLink(CardError):
    """A module names something that is not there."""


class BadCode(CardError):
    """The code of a module may get stuck."""


class BadPaper(CardError):
    """A value is no paper, or claims what does not hold."""


class BadScript(CardError):
    """A text is no script."""

    def __init__(self, line, reason):
        self.line = line
        self.reason = reason


class Fault(CardError):
    """A fault that ends a run."""

    def __init__(self, code):
        self.code = code


class StepsGone(CardError):
    """A run has made all the steps that it may make."""


class PowerCut(CardError):
    """The power has failed."""
