import random
import unittest

from cases import (
    BIG, BIG_ROW, BOUND, NO_TUPLES, ROW_2, ROW_3, ROW_5, ROW_7, ROW_8, ROW_9, SLIP_7,
    Case, divisors_of_prime_kind, is_prime_kind, needed, rows_to, shown, stood_on,
)

from primeslip.errors import NoNumber, NoSlip, NotHeld
from primeslip.making import grown, made
from primeslip.parts import cut, merged
from primeslip.powers import LIMIT
from primeslip.slips import is_slip, lets_by, says

MOST = rows_to(201)
GROWN_TO = 5 * 10 ** 18
OTHER_7 = (7, "prime", (5, ((2, 1), (3, 1))))

NO_NUMBERS = [
    True, False, None, "7", "", b"7", 7.0, 2.0, 7 + 0j, [7], (7,), {7}, {7: 7}, [], (), object(), int, SLIP_7, ROW_7,
]


def sieve(last):
    """For each number up to the last one whether it is a prime."""
    prime = bytearray([1]) * (last + 1)
    prime[0:2] = b"\0\0"
    for number in range(2, int(last ** 0.5) + 1):
        if prime[number]:
            prime[number * number::number] = bytes(len(range(number * number, last + 1, number)))
    return prime


PRIME = sieve(LIMIT)


def slips_of(*numbers):
    return [made(number) for number in numbers]


class Made(Case):

    def right(self, number):
        with self.subTest(number=number):
            slip = made(number)
            self.assertIs(lets_by(slip), True)
            self.assertEqual(says(slip), (number, bool(PRIME[number])))
            if not PRIME[number]:
                self.assertEqual(len(slip), 1)
            for at, row in enumerate(slip[:-1]):
                self.assertTrue(any(row[0] in needed(behind) for behind in slip[at + 1:]))

    def test_small_ones_all(self):
        for number in range(2, 4001):
            self.right(number)

    def test_drawn_ones(self):
        drawn = random.Random(11)
        for number in drawn.sample(range(4001, LIMIT + 1), 3000):
            self.right(number)

    def test_drawn_primes(self):
        drawn = random.Random(12)
        primes = [number for number in range(4001, LIMIT + 1) if PRIME[number]]
        for number in drawn.sample(primes, 1000):
            self.right(number)

    def test_the_ends(self):
        for number in range(LIMIT - 300, LIMIT + 1):
            self.right(number)
        self.assertEqual(made(2), (ROW_2,))
        self.assertEqual([row[0] for row in made(3)], [2, 3])

    def test_squares_and_products_of_neighbours(self):
        primes = [number for number in range(2, 1000) if PRIME[number]]
        for a, b in zip(primes, primes[1:]):
            self.right(a * a)
            if a * b <= LIMIT:
                self.right(a * b)

    def test_about_powers_of_two_and_three(self):
        for power in [2 ** k for k in range(3, 20)] + [3 ** k for k in range(2, 13)]:
            for number in (power - 1, power, power + 1):
                self.right(number)

    def test_numbers_that_look_like_primes(self):
        # By many bases or by all that have no part in common with them, powers leave 1.
        for number in (341, 561, 1105, 1729, 2047, 2821, 6601, 8911, 62745, 162401, 825265, 997633):
            self.right(number)

    def test_primes_with_long_chains_and_high_least_bases(self):
        for number in (47, 719, 1439, 2879, 65537, 110881, 409, 760321, 786433, 995329, 999983):
            self.assertTrue(PRIME[number])
            self.right(number)

    def test_the_same_each_time(self):
        asked = [2, 3, 7, 15, 8, 719, 65537, 999983, 1000000]
        first = [made(number) for number in asked]
        self.assertEqual([made(number) for number in reversed(asked)], first[::-1])

    def test_no_number(self):
        for number in [1, 0, -1, -2, -7, LIMIT + 1, LIMIT + 3, 1000003, BOUND, BIG, 10 ** 5000, -10 ** 5000, *NO_NUMBERS]:
            with self.subTest(number=shown(number)):
                self.assertRaises(NoNumber, made, number)

    def test_other_things_are_no_numbers(self):
        for thing in NO_TUPLES:
            if type(thing) is not int or thing < 2 or thing > LIMIT:
                with self.subTest(thing=shown(thing)):
                    self.assertRaises(NoNumber, made, thing)


class Grown(Case):

    def right(self, number, base, slips):
        """Asks of what can be grown, and holds the answer against the document."""
        with self.subTest(number=number, base=base):
            before = list(slips)
            slip = grown(number, base, slips)
            self.assertEqual(slips, before)
            self.assertIs(lets_by(slip), True)
            self.assertEqual(says(slip), (number, True))
            primes = sorted({given[-1][0] for given in slips})
            powers = []
            for q in primes:
                times = 0
                while (number - 1) % q ** (times + 1) == 0:
                    times += 1
                powers.append((q, times))
            row = (number, "prime", (base, tuple(powers)))
            self.assertEqual(slip[-1], row)
            together = (*merged(slips), row)
            kept = [*stood_on(together, number), number]
            self.assertEqual(slip, tuple(row for row in together if row[0] in kept))
            return slip

    def refused(self, refusal, number, base, slips):
        with self.subTest(number=shown(number), base=shown(base), slips=shown(slips)):
            before = list(slips)
            self.assertRaises(refusal, grown, number, base, slips)
            self.assertEqual(len(slips), len(before))
            self.assertTrue(all(one is other for one, other in zip(slips, before)))

    def test_by_hand(self):
        self.assertEqual(grown(3, 2, [(ROW_2,)]), (ROW_2, ROW_3))
        self.assertEqual(grown(5, 2, [(ROW_2,)]), (ROW_2, ROW_5))
        self.assertEqual(grown(7, 3, [(ROW_2,), (ROW_2, ROW_3)]), SLIP_7)
        self.assertEqual(grown(7, 5, [(ROW_2,), (ROW_2, ROW_3)]), (ROW_2, ROW_3, OTHER_7))
        self.assertEqual(
            grown(43, 3, [SLIP_7, (ROW_2,), (ROW_2, ROW_3)]),
            (*SLIP_7, (43, "prime", (3, ((2, 1), (3, 1), (7, 1))))),
        )

    def test_every_number_and_base_of_the_small_ones(self):
        for number in range(3, 130):
            powers = divisors_of_prime_kind(number - 1)
            slips = slips_of(*(q for q, _ in powers))
            for base in range(1, number + 3):
                if base < number and pow(base, number - 1, number) == 1 and all(
                    pow(base, (number - 1) // q, number) != 1 for q, _ in powers
                ):
                    self.right(number, base, slips)
                else:
                    self.refused(NotHeld, number, base, slips)

    def test_in_any_order_and_twice(self):
        wanted = grown(31, 3, slips_of(2, 3, 5))
        for order in ((2, 5, 3), (3, 2, 5), (3, 5, 2), (5, 2, 3), (5, 3, 2), (5, 3, 5, 2), (2, 2, 3, 3, 5, 5, 2)):
            self.assertEqual(self.right(31, 3, slips_of(*order)), wanted)

    def test_rows_on_which_it_does_not_stand_are_left_out(self):
        slips = [MOST[:2], (ROW_2,), MOST[:6]]
        self.assertEqual(says(slips[2]), (7, True))
        self.assertEqual([row[0] for row in self.right(43, 3, slips)], [2, 3, 7, 43])
        slips = [(ROW_2,), (*SLIP_7, ROW_9, (11, "prime", (2, ((2, 1), (5, 1)))))]
        self.refused(NoSlip, 23, 5, slips)
        slips = [(ROW_2,), (*SLIP_7[:2], ROW_5, ROW_7, ROW_9, (11, "prime", (2, ((2, 1), (5, 1)))))]
        self.assertEqual([row[0] for row in self.right(23, 5, slips)], [2, 5, 11, 23])

    def test_of_cut_slips(self):
        for number in [number for number in range(3, 1500) if PRIME[number] and max(needed(made(number)[-1])) < 202]:
            base = made(number)[-1][2][0]
            self.right(number, base, [cut(MOST, q) for q in reversed(needed(made(number)[-1]))])

    def test_of_one_number_the_row_of_the_slip_told_first(self):
        row_43 = (43, "prime", (3, ((2, 1), (3, 1), (7, 1))))
        by_3 = (*SLIP_7, row_43)
        by_5 = (ROW_2, ROW_3, OTHER_7, row_43)
        others = slips_of(2, 3)
        number = next(n for n in range(7 * 43 * 6 + 1, LIMIT, 7 * 43 * 6) if PRIME[n] and made_by(n) == [2, 3, 7, 43])
        base = made(number)[-1][2][0]
        for slips, seven in (
            ([by_3, by_5[:3]], ROW_7), ([by_5, SLIP_7], OTHER_7), ([SLIP_7, by_5], ROW_7), ([by_5[:3], by_3], OTHER_7),
        ):
            self.assertIn(seven, self.right(number, base, slips + others))
            self.assertIn(seven, self.right(number, base, others + slips))

    def test_of_slips_that_have_more_than_200_rows_together(self):
        row_211 = (211, "prime", (2, ((2, 1), (3, 1), (5, 1), (7, 1))))
        many = (ROW_2, ROW_3, ROW_5, ROW_7, *((k, "split", (2, k // 2)) for k in range(202, 211, 2)), row_211)
        long = MOST[:198]
        self.assertEqual((says(long), says(many)), ((199, True), (211, True)))
        self.assertGreater(len(merged([long, many])), 200)
        self.assertTrue(lets_by(long) and lets_by(many))
        step = 2 * 199 * 211
        number = next(step * k + 1 for k in (3, 6, 9, 12, 18, 24) if is_prime_kind(step * k + 1))
        base = base_by(number, [2, 3, 199, 211])
        self.right(number, base, [long, many, *slips_of(2, 3)])
        self.right(number, base, [*slips_of(3, 2), many, long, many])

    def test_chains_of_great_numbers(self):
        for seed in range(6):
            drawn = random.Random(seed)
            slip = made(drawn.choice([2, 3, 11, 47, 719, 999983]))
            while True:
                grew = self.next_of(slip, drawn)
                if grew is None:
                    break
                slip = grew
            self.assertGreater(slip[-1][0], 10 ** 14)

    def next_of(self, slip, drawn):
        """A slip grown of one that is there and of small primes."""
        known = slip[-1][0]
        for _ in range(400):
            factor = drawn.randrange(2, 3000, 2)
            number = known * factor + 1
            if number <= GROWN_TO and is_prime_kind(number):
                primes = [q for q, _ in divisors_of_prime_kind(factor)]
                base = base_by(number, [known, *primes])
                return self.right(number, base, [slip, *slips_of(*primes)])
        return None

    def test_powers_of_two_and_three_many_times(self):
        for number in (3, 5, 17, 257, 65537):
            self.right(number, base_by(number, [2]), [(ROW_2,)])
        for twos in (1, 2, 16, 20, 24, 40, 50, 53, 57):
            number = next(k for k in (3 ** threes * 2 ** twos + 1 for threes in range(1, 40)) if is_prime_kind(k))
            if number <= GROWN_TO:
                slip = self.right(number, base_by(number, [2, 3]), slips_of(3, 2))
                self.assertEqual(slip[-1][2][1][0], (2, twos))
        # 3 * 2 ** 41 + 1 and 27 * 2 ** 56 + 1 are primes.
        for number in (3 * 2 ** 41 + 1, 27 * 2 ** 56 + 1):
            self.assertLessEqual(number, GROWN_TO)
            self.right(number, base_by(number, [2, 3]), slips_of(2, 3))

    def test_products_of_many_primes(self):
        primes = [2, 3, 5, 7, 11, 13, 17, 19, 23, 29, 31, 37, 41]
        product = 1
        for q in primes:
            product *= q
        number = next(k * product + 1 for k in range(1, 17) if is_prime_kind(k * product + 1))
        self.assertLess(product, number)
        self.assertLessEqual(number, GROWN_TO)
        self.right(number, base_by(number, primes), slips_of(*primes[::-1]))

    def test_no_number(self):
        good = slips_of(2, 3)
        wrong = [2, 1, 0, -1, -7, BOUND + 1, 10 ** 5000, *NO_NUMBERS]
        for number in wrong:
            with self.subTest(number=shown(number)):
                for slips in (good, [], [None], [(ROW_8,)], slips_of(5)):
                    self.assertRaises(NoNumber, grown, number, 3, slips)
        for base in [0, -1, -3, BOUND + 1, 10 ** 5000, *NO_NUMBERS]:
            with self.subTest(base=shown(base)):
                for slips in (good, [], [None], [(ROW_8,)], slips_of(5)):
                    self.assertRaises(NoNumber, grown, 7, base, slips)
        for number in wrong:
            self.assertRaises(NoNumber, grown, number, 0, [])

    def test_numbers_at_their_borders_are_let(self):
        for number in (3, 4, 7, BOUND - 1, BOUND):
            for base in (1, 2, BOUND - 1, BOUND):
                self.refused(NoSlip, number, base, [])
        self.refused(NotHeld, 7, BOUND, slips_of(2, 3))
        self.refused(NotHeld, 7, 1, slips_of(2, 3))
        self.refused(NotHeld, 4, 3, slips_of(3))

    def test_no_slip(self):
        good = slips_of(2, 3)
        wrong = [
            *NO_TUPLES, (), ROW_2, ROW_3, [ROW_2], list(SLIP_7), (ROW_3,), (ROW_7,), ((9, "first", ()),), SLIP_7[::-1],
            (ROW_8,), (ROW_9,), made(4), (*SLIP_7, ROW_9), (ROW_2, (3, "prime", (1, ((2, 1),)))), rows_to(227),
        ]
        for number in (7, 8, BIG, BOUND):
            for thing in wrong:
                for slips in ([thing], [thing, *good], [good[0], thing, good[1]], [*good, thing]):
                    self.refused(NoSlip, number, 3, slips)
            self.refused(NoSlip, number, 3, [])

    def test_not_held_where_a_prime_does_not_divide(self):
        self.refused(NotHeld, 7, 3, slips_of(2, 3, 5))
        self.refused(NotHeld, 7, 3, slips_of(5, 2, 3))
        self.refused(NotHeld, 7, 3, slips_of(2, 3, 7))
        self.refused(NotHeld, 7, 3, slips_of(2, 3, 11))
        self.refused(NotHeld, 3, 2, slips_of(2, 3))
        for base in range(1, 8):
            self.refused(NotHeld, 7, base, slips_of(5))

    def test_not_held_where_a_prime_is_missing(self):
        for base in range(1, 8):
            self.refused(NotHeld, 7, base, slips_of(2))
            self.refused(NotHeld, 7, base, slips_of(3))
        self.refused(NotHeld, 31, 3, slips_of(2, 3))
        self.refused(NotHeld, 31, 3, slips_of(2, 5))
        self.refused(NotHeld, 31, 3, slips_of(3, 5))

    def test_not_held_where_the_base_does_not_serve(self):
        for base in (1, 2, 4, 6, 7, 8, 10, 12, 3 + 7, 5 + 7):
            self.refused(NotHeld, 7, base, slips_of(2, 3))
        self.refused(NotHeld, 561, 2, slips_of(2, 5, 7))
        self.refused(NotHeld, 1729, 2, slips_of(2, 3))

    def test_which_refusal_stands_first(self):
        not_dividing = slips_of(2, 3, 5)
        self.refused(NoNumber, 2, 3, not_dividing)
        self.refused(NoNumber, 7, 0, not_dividing)
        self.refused(NoNumber, True, True, [True])
        self.refused(NoSlip, 7, 3, [*not_dividing, (ROW_9,)])
        self.refused(NoSlip, 7, 3, [(ROW_9,), *not_dividing])
        self.refused(NoSlip, 7, 6, [*slips_of(2, 3), (ROW_3,)])
        self.refused(NotHeld, 7, 3, not_dividing)

    def test_the_same_each_time_and_nothing_kept(self):
        slips = slips_of(2, 3)
        first = grown(7, 3, slips)
        slips.append(made(5))
        self.refused(NotHeld, 7, 3, slips)
        slips.pop()
        self.assertEqual(grown(7, 3, slips), first)
        slips.clear()
        self.refused(NoSlip, 7, 3, slips)

    def test_above_what_is_promised_no_error_of_another_kind(self):
        self.assertTrue(is_slip(grown(BIG, 13, slips_of(2, 3, 5))))
        self.assertEqual(grown(BIG, 13, slips_of(5, 3, 2))[-1], BIG_ROW)
        self.refused(NotHeld, BOUND, 3, slips_of(3))


def made_by(number):
    return needed(made(number)[-1])


def base_by(number, primes):
    """The least base that serves for a prime."""
    return next(b for b in range(2, 2000) if all(pow(b, (number - 1) // q, number) != 1 for q in primes))


if __name__ == "__main__":
    unittest.main()
