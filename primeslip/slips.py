"""Slips: rows that are judged from the first one on."""

from primeslip.rows import holds, is_row, tells_prime

MOST_ROWS = 200


def is_slip(thing):
    """Whether a thing, of whatever kind, is a slip."""
    if not isinstance(thing, tuple) or not 1 <= len(thing) <= MOST_ROWS:
        return False
    ahead = 0
    for row in thing:
        if not is_row(row) or row[0] <= ahead:
            return False
        ahead = row[0]
    return True


def says(slip):
    """The number of the last row, and whether it is told a prime."""
    # A caller may go beyond the limits, and no error is raised for that: no row says nothing of a number.
    if len(slip) == 0:
        return 0, False
    last = slip[-1]
    return last[0], tells_prime(last)


def wrong_at(slip):
    """The place of the first row that does not hold, or None."""
    primes = []
    for at, row in enumerate(slip):
        if not holds(row, primes):
            return at
        if tells_prime(row):
            primes.append(row[0])
    return None


def lets_by(thing):
    """Whether a thing, of whatever kind, is a slip all of whose rows hold."""
    return is_slip(thing) and wrong_at(thing) is None
