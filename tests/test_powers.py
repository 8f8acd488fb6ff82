import unittest

from cases import BIG, Case

from primeslip.powers import BOUND, LIMIT, least_divisor, powered


def multiplied_out(base, exponent, by):
    reached = 1
    for _ in range(exponent):
        reached *= base
    return reached % by


class Limits(unittest.TestCase):

    def test_bound_and_limit(self):
        self.assertEqual(BOUND, 1000000000000000000000000000000)
        self.assertEqual(LIMIT, 1000000)
        self.assertIs(type(BOUND), int)
        self.assertIs(type(LIMIT), int)


class Powered(Case):

    def test_small_ones_against_multiplying_out(self):
        for base in range(14):
            for exponent in range(14):
                for by in range(1, 14):
                    with self.subTest(base=base, exponent=exponent, by=by):
                        self.assertEqual(powered(base, exponent, by), multiplied_out(base, exponent, by))

    def test_exponents_with_every_pattern_of_twos(self):
        for exponent in range(300):
            self.assertEqual(powered(3, exponent, 1000003), multiplied_out(3, exponent, 1000003))

    def test_exponent_0_leaves_1(self):
        for base in (0, 1, 6, 7, 8, BOUND):
            for by in (2, 7, BOUND):
                self.assertEqual(powered(base, 0, by), 1)

    def test_exponent_1_leaves_the_rest(self):
        self.assertEqual(powered(5, 1, 7), 5)
        self.assertEqual(powered(7, 1, 7), 0)
        self.assertEqual(powered(19, 1, 7), 5)
        self.assertEqual(powered(BOUND + 3, 1, BOUND), 3)

    def test_by_1_everything_leaves_0(self):
        for base in (0, 1, 2, 7, BOUND):
            for exponent in (0, 1, 2, 7, BOUND):
                self.assertEqual(powered(base, exponent, 1), 0)

    def test_base_0(self):
        self.assertEqual(powered(0, 0, 5), 1)
        for exponent in (1, 2, 3, BOUND):
            self.assertEqual(powered(0, exponent, 5), 0)

    def test_base_above_by(self):
        self.assertEqual(powered(10, 3, 7), 6)
        self.assertEqual(powered(BOUND, 2, 7), (BOUND % 7) ** 2 % 7)
        self.assertEqual(powered(7 * BOUND, 5, 7), 0)

    def test_thirty_figures_at_once(self):
        self.assertEqual(powered(13, BIG - 1, BIG), 1)
        self.assertEqual(powered(13, (BIG - 1) // 2, BIG), BIG - 1)
        base = 987654321098765432109876543210
        exponent = 912345678901234567890123456789
        by = 999999999999999999999999999989
        self.assertEqual(powered(base, exponent, by), pow(base, exponent, by))
        self.assertEqual(powered(BOUND, BOUND, BOUND), 0)
        self.assertEqual(powered(BOUND - 1, BOUND - 1, BOUND), BOUND - 1)
        self.assertEqual(powered(BOUND - 1, BOUND, BOUND), 1)

    def test_both_exponents_together_leave_what_the_product_does(self):
        by = 982451653982451653982451653981
        one = 123456789012345678901234567890
        for base in (2, 3, 10 ** 15 + 7, by - 1, by + 5, BOUND):
            for other in (0, 1, 2, 63, 64, 65, 10 ** 15, BOUND):
                product = powered(base, one, by) * powered(base, other, by) % by
                self.assertEqual(powered(base, one + other, by), product)

    def test_the_same_each_time(self):
        asked = [(3, 6, 7), (3, 6, 9), (3, 5, 7), (4, 6, 7), (2, 0, 1), (2, 0, 3)]
        first = [powered(*words) for words in asked]
        self.assertEqual([powered(*words) for words in reversed(asked)], first[::-1])
        self.assertEqual(first, [1, 0, 5, 1, 0, 1])

    def test_somewhat_beyond_no_error_is_raised(self):
        for words in ((-1, 2, 7), (2, -1, 7), (2, 3, 0), (0, 0, 0), (2, 3, -1), (BOUND + 1, BOUND + 1, BOUND + 2)):
            with self.subTest(words=words):
                self.assertIs(type(powered(*words)), int)


class LeastDivisor(Case):

    def test_every_number_to_some_thousands_against_searching(self):
        for number in range(2, 5001):
            searched = next(k for k in range(2, number + 1) if number % k == 0)
            self.assertEqual(least_divisor(number), searched)

    def test_primes_have_themselves(self):
        for number in (2, 3, 5, 7, 997, 7919, 499979, 999979, 999983):
            self.assertEqual(least_divisor(number), number)

    def test_squares_of_primes(self):
        for prime in (2, 3, 5, 7, 31, 97, 499, 983, 991, 997):
            self.assertEqual(least_divisor(prime * prime), prime)

    def test_products_of_two_primes_near_1000(self):
        for a, b in ((991, 997), (983, 997), (983, 991), (977, 1019), (967, 1033), (953, 1049), (947, 1051)):
            self.assertEqual(least_divisor(a * b), a)

    def test_the_ends(self):
        self.assertEqual(least_divisor(999983), 999983)
        self.assertEqual(least_divisor(999999), 3)
        self.assertEqual(least_divisor(1000000), 2)

    def test_somewhat_beyond_no_error_is_raised(self):
        self.assertEqual(least_divisor(1000001), 101)
        self.assertEqual(least_divisor(1000003), 1000003)
        for number in (1, 0, -1):
            self.assertIs(type(least_divisor(number)), int)

    def test_the_same_each_time(self):
        asked = [15, 2, 49, 15, 7, 2]
        self.assertEqual([least_divisor(number) for number in asked], [3, 2, 7, 3, 7, 2])


if __name__ == "__main__":
    unittest.main()
