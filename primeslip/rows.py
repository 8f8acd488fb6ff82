"""Rows: the small reckonings that slips are made of."""

from primeslip.powers import BOUND, powered

MOST_TIMES = 100


def is_number(thing, low, high):
    """Whether a thing is a whole number from low to high."""
    return isinstance(thing, int) and not isinstance(thing, bool) and low <= thing <= high


def is_tuple(thing, many):
    """Whether a thing is a tuple of so many items."""
    return isinstance(thing, tuple) and len(thing) == many


def are_powers(thing):
    """Whether a thing is a tuple of one pair or more, as a row with the word prime has it."""
    if not isinstance(thing, tuple) or len(thing) == 0:
        return False
    ahead = 1
    for pair in thing:
        if not is_tuple(pair, 2):
            return False
        q, times = pair
        if not is_number(q, ahead + 1, BOUND) or not is_number(times, 1, MOST_TIMES):
            return False
        ahead = q
    return True


def are_facts(word, thing):
    """Whether a thing is what stands behind a word in a row."""
    if word == "first":
        return is_tuple(thing, 0)
    if word == "prime":
        return is_tuple(thing, 2) and is_number(thing[0], 1, BOUND) and are_powers(thing[1])
    if word == "split":
        return is_tuple(thing, 2) and is_number(thing[0], 2, BOUND) and is_number(thing[1], 2, BOUND)
    if word == "power" or word == "root":
        return is_tuple(thing, 1) and is_number(thing[0], 1, BOUND)
    return False


def is_row(thing):
    """Whether a thing, of whatever kind, is a row."""
    if not is_tuple(thing, 3):
        return False
    number, word, facts = thing
    return is_number(number, 2, BOUND) and isinstance(word, str) and are_facts(word, facts)


def tells_prime(row):
    """Whether a row tells its number a prime."""
    return row[1] == "first" or row[1] == "prime"


def needs(row):
    """The numbers that have to be told primes for a row to hold."""
    if row[1] != "prime":
        return []
    return [pair[0] for pair in row[2][1]]


def come_to(powers, goal):
    """Whether all q, each taken so many times, come to the goal when multiplied."""
    reached = 1
    for q, times in powers:
        for _ in range(times):
            reached = reached * q
            # What is above the goal stays above it, however many powers a row may have.
            if reached > goal:
                return False
    return reached == goal


def prime_holds(number, base, powers, primes):
    """Whether a row with the word prime holds."""
    less = number - 1
    # This stands first: from here on it is sure that each q divides what is one less.
    if not come_to(powers, less):
        return False
    if base >= number or powered(base, less, number) != 1:
        return False
    for q, _ in powers:
        if q not in primes or powered(base, less // q, number) == 1:
            return False
    return True


def holds(row, primes):
    """Whether a row holds where the numbers in the list are told primes."""
    number, word, facts = row
    if word == "first":
        return number == 2
    if word == "prime":
        return prime_holds(number, facts[0], facts[1], primes)
    if word == "split":
        return facts[0] * facts[1] == number
    base = facts[0]
    if word == "power":
        return base < number and powered(base, number - 1, number) != 1
    return 1 < base < number - 1 and base * base % number == 1
