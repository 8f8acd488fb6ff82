"""The refusals."""


class SlipError(ValueError):
    """Any refusal."""


class NoNumber(SlipError):
    """A number is not one of those that are asked for."""


class NoSlip(SlipError):
    """A thing is no slip that serves here."""


class NoRow(SlipError):
    """There is no row of the number."""


class NotHeld(SlipError):
    """A row or a slip does not hold."""


class Needed(SlipError):
    """A row that is kept needs the number."""


class NoText(SlipError):
    """A text is that of no slip."""
