"""Making slips: of any small number, and of a number by slips of lesser primes."""

from primeslip.errors import NoNumber, NoSlip, NotHeld
from primeslip.parts import cut, merged
from primeslip.powers import BOUND, LIMIT, least_divisor
from primeslip.rows import holds, is_number, needs
from primeslip.slips import lets_by, says


def times_in(q, number):
    """How many times q divides a number."""
    times = 0
    rest = number
    while rest % q == 0:
        rest = rest // q
        times = times + 1
    return times


def powers_of(number):
    """The primes that divide a number, rising, each with how many times it does."""
    powers = []
    rest = number
    while rest > 1:
        q = least_divisor(rest)
        times = times_in(q, rest)
        powers.append((q, times))
        for _ in range(times):
            rest = rest // q
    return tuple(powers)


def prime_row(number):
    """The row with the least base that tells a prime above 2 a prime."""
    powers = powers_of(number - 1)
    primes = [q for q, _ in powers]
    base = 2
    # Of every prime there is such a base, so the search ends.
    while not holds((number, "prime", (base, powers)), primes):
        base = base + 1
    return number, "prime", (base, powers)


def made(number):
    """A slip of a number from 2 to LIMIT that is let by."""
    if not is_number(number, 2, LIMIT):
        raise NoNumber("no whole number from 2 to LIMIT")
    if number == 2:
        return ((2, "first", ()),)
    divisor = least_divisor(number)
    if divisor < number:
        return ((number, "split", (divisor, number // divisor)),)
    row = prime_row(number)
    return (*merged([made(q) for q in needs(row)]), row)


def shows_prime(thing):
    """Whether a thing is a slip that is let by and says that its number is a prime."""
    return lets_by(thing) and says(thing)[1]


def grown(number, base, slips):
    """The slip that tells a number a prime by a base and by slips of the primes of what is one less."""
    if not is_number(number, 3, BOUND) or not is_number(base, 1, BOUND):
        raise NoNumber("no whole number from 3 to BOUND, or no base from 1 to BOUND")
    if len(slips) == 0 or not all([shows_prime(slip) for slip in slips]):
        raise NoSlip("each has to be a slip of a prime that is let by, and there has to be one")
    primes = sorted({says(slip)[0] for slip in slips})
    powers = tuple([(q, times_in(q, number - 1)) for q in primes])
    # A q that is taken no times changes no product, so the row alone would not show it.
    if not all([times > 0 for _, times in powers]):
        raise NotHeld("a prime does not divide what is one less than the number")
    row = (number, "prime", (base, powers))
    if not holds(row, primes):
        raise NotHeld("the row does not hold")
    return cut((*merged(slips), row), number)
