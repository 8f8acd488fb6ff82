"""What several tests ask with: rows and slips that hold, and things that are none."""

import signal
import unittest

BOUND = 10 ** 30

# A prime below the bound, and all there is to know of it: 2 ** 26 * 3 ** 45 * 5 + 1.
BIG = 991302848186959038844250357761
BIG_ROW = (BIG, "prime", (13, ((2, 26), (3, 45), (5, 1))))

ROW_2 = (2, "first", ())
ROW_3 = (3, "prime", (2, ((2, 1),)))
ROW_5 = (5, "prime", (2, ((2, 2),)))
ROW_7 = (7, "prime", (3, ((2, 1), (3, 1))))
ROW_8 = (8, "root", (3,))
ROW_9 = (9, "power", (2,))
ROW_15 = (15, "split", (3, 5))

SLIP_7 = (ROW_2, ROW_3, ROW_7)


class EqualToAll:
    """What is equal to everything, and none of it."""

    def __eq__(self, other):
        return True


class EqualToNothing:
    """What may not even be asked whether it is equal."""

    def __eq__(self, other):
        raise TypeError("not comparable")


NO_TUPLES = [
    None, True, False, 0, 1, 2, 7, -1, BOUND, 2.0, 1j, "", "first", "2 first", b"", b"first",
    [], [2], [2, "first", ()], {}, {2: "first"}, {2}, frozenset(), range(3), object(), len, int,
    ValueError("2 first"), (row for row in ()), iter(()), EqualToAll(), EqualToNothing(),
]


def divisors_of_prime_kind(number):
    """The primes that divide a number, with how many times each does."""
    powers = []
    for q in range(2, number + 1):
        times = 0
        while number % q == 0:
            number //= q
            times += 1
        if times:
            powers.append((q, times))
    return tuple(powers)


def is_prime(number):
    return number >= 2 and all(number % k for k in range(2, number))


def row_of(number):
    """A row that holds, where all primes below its number are told."""
    if number == 2:
        return ROW_2
    powers = divisors_of_prime_kind(number - 1)
    if not is_prime(number):
        a = next(a for a in range(2, number) if number % a == 0)
        return (number, "split", (a, number // a))
    base = next(
        base for base in range(1, number)
        if all(pow(base, (number - 1) // q, number) != 1 for q, _ in powers)
    )
    return (number, "prime", (base, powers))


def rows_to(last):
    """Rows that hold of all numbers from 2 on."""
    return tuple(row_of(number) for number in range(2, last + 1))


def is_prime_kind(number):
    """Whether a number below 3 * 10 ** 24 is a prime: no parted one passes with all these bases."""
    bases = (2, 3, 5, 7, 11, 13, 17, 19, 23, 29, 31, 37, 41)
    if number < 2 or any(number % base == 0 for base in bases):
        return number in bases
    odd = number - 1
    twos = 0
    while odd % 2 == 0:
        odd //= 2
        twos += 1
    for base in bases:
        left = pow(base, odd, number)
        if left != 1 and all(pow(left, 2 ** k, number) != number - 1 for k in range(twos)):
            return False
    return True


def needed(row):
    """The numbers that a row needs, told anew from its facts."""
    return [q for q, _ in row[2][1]] if row[1] == "prime" else []


def stood_on(rows, number):
    """The numbers on which a row stands, told anew: added until no more come."""
    rows = {row[0]: row for row in rows}
    found = set(needed(rows[number]))
    while True:
        more = found.union(*(needed(rows[q]) for q in found))
        if more == found:
            return sorted(found)
        found = more


def spoilt_numbers(low, high):
    """What may not stand where a number from low to high stands."""
    return [low - 1, high + 1, -low, -high, 0, True, False, None, float(low), str(low), [low], (low,), ()]


def shown(thing):
    """A thing as a failing test names it, cut where it is long."""
    # Python itself refuses to write whole numbers of some thousands of figures.
    if type(thing) is int and abs(thing) > 10 ** 100:
        return "a very long number"
    text = repr(thing)
    return text if len(text) <= 300 else f"{text[:200]} .. {text[-90:]}"


class Case(unittest.TestCase):
    """Tests that fail where the program searches or does not end, instead of waiting for it."""

    SECONDS = 20

    def setUp(self):
        def stop(*_):
            raise AssertionError(f"not done in {self.SECONDS} seconds")
        before = signal.signal(signal.SIGALRM, stop)
        self.addCleanup(signal.signal, signal.SIGALRM, before)
        signal.alarm(self.SECONDS)
        self.addCleanup(signal.alarm, 0)

    def truths(self, ask, things, answer):
        """Asks of each thing, and takes True and False as answers only."""
        for thing in things:
            with self.subTest(thing=shown(thing)):
                self.assertIs(ask(thing), answer)
