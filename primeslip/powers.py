"""What powers leave, and the least divisors of small numbers."""

BOUND = 10 ** 30
LIMIT = 1000000


def powered(base, exponent, by):
    """What base, taken exponent times, leaves when it is divided by a number."""
    # A caller may go beyond the limits, and no error is raised for that: 0 divides nothing.
    if by < 1:
        return 0
    # Divided by 1 also the 1 of exponent 0 leaves 0.
    left = 1 % by
    square = base % by
    rest = exponent
    while rest > 0:
        if rest % 2 == 1:
            left = left * square % by
        square = square * square % by
        rest = rest // 2
    return left


def least_divisor(number):
    """The least number from 2 on that divides a number."""
    divisor = 2
    # A parted number has a divisor whose square is not above it.
    while divisor * divisor <= number:
        if number % divisor == 0:
            return divisor
        divisor = divisor + 1
    return number
