import unittest
from itertools import product

from cases import (
    BIG, BIG_ROW, BOUND, NO_TUPLES, ROW_2, ROW_3, ROW_5, ROW_7, ROW_8, ROW_9, ROW_15,
    Case, EqualToAll, EqualToNothing, divisors_of_prime_kind, is_prime, row_of, shown, spoilt_numbers,
)

from primeslip.rows import holds, is_row, needs, tells_prime

ROWS = [ROW_2, ROW_3, ROW_5, ROW_7, ROW_8, ROW_9, ROW_15, BIG_ROW]
MANY_POWERS = tuple((q, 100) for q in range(2, 2002))


def prime_row(powers, base=3, number=7):
    return (number, "prime", (base, powers))


class IsRow(Case):

    def test_rows_of_each_word(self):
        self.truths(is_row, ROWS, True)

    def test_rows_that_do_not_hold_are_rows_too(self):
        self.truths(is_row, [
            (9, "first", ()), (9, "prime", (9, ((4, 3), (BOUND, 100)))), (9, "split", (2, 2)),
            (7, "power", (7,)), (7, "root", (1,)), (2, "prime", (1, ((2, 1),))),
        ], True)

    def test_number_at_its_borders(self):
        for word, facts in [row[1:] for row in ROWS]:
            self.truths(is_row, [(number, word, facts) for number in (2, 3, BOUND - 1, BOUND)], True)
            self.truths(is_row, [(number, word, facts) for number in spoilt_numbers(2, BOUND)], False)
            self.truths(is_row, [(1, word, facts), (BOUND + 1, word, facts)], False)

    def test_base_at_its_borders(self):
        powers = ((2, 1),)
        for base in (1, 2, BOUND - 1, BOUND):
            self.truths(is_row, [prime_row(powers, base), (8, "power", (base,)), (8, "root", (base,))], True)
        for base in spoilt_numbers(1, BOUND):
            self.truths(is_row, [prime_row(powers, base), (8, "power", (base,)), (8, "root", (base,))], False)

    def test_parts_at_their_borders(self):
        for part in (2, 3, BOUND - 1, BOUND):
            self.truths(is_row, [(6, "split", (part, 2)), (6, "split", (2, part))], True)
        for part in [1, *spoilt_numbers(2, BOUND)]:
            self.truths(is_row, [(6, "split", (part, 2)), (6, "split", (2, part))], False)

    def test_q_at_its_borders(self):
        for q in (2, 3, BOUND - 1, BOUND):
            self.truths(is_row, [prime_row(((q, 1),))], True)
        self.truths(is_row, [prime_row(((2, 1), (BOUND, 1))), prime_row(((BOUND - 1, 1), (BOUND, 1)))], True)
        for q in [1, *spoilt_numbers(2, BOUND)]:
            self.truths(is_row, [prime_row(((q, 1),)), prime_row(((2, 1), (q, 1)))], False)

    def test_times_at_its_borders(self):
        for times in (1, 2, 99, 100):
            self.truths(is_row, [prime_row(((2, times),)), prime_row(((2, times), (3, times)))], True)
        for times in [101, *spoilt_numbers(1, 100)]:
            self.truths(is_row, [
                prime_row(((2, times),)), prime_row(((2, 1), (3, times))), prime_row(((2, times), (3, 1))),
            ], False)

    def test_powers_are_one_pair_or_more_each_q_above_the_one_ahead(self):
        self.truths(is_row, [
            prime_row(((2, 1),)), prime_row(((2, 1), (3, 1))), prime_row(((2, 5), (4, 1), (9, 1))),
            prime_row(MANY_POWERS),
        ], True)
        self.truths(is_row, [
            prime_row(()), prime_row(((3, 1), (2, 1))), prime_row(((2, 1), (2, 1))),
            prime_row(((2, 1), (2, 2))), prime_row(((2, 1), (5, 1), (3, 1))), prime_row(((2, 1), (5, 1), (5, 1))),
            prime_row(((3, 1), (2, 1), (5, 1))), prime_row(((2, 1), (2, 1), (5, 1))),
            prime_row(((3, 1), (5, 1), (2, 1))), prime_row(MANY_POWERS[::-1]),
        ], False)

    def test_a_tuple_that_is_shorter_or_longer(self):
        for row in ROWS:
            number, word, facts = row
            self.truths(is_row, [
                (), row[:1], row[:2], row[1:], (*row, ()), (*row, None), (*row, *row), (row,), (number, word, *facts, 2),
            ], False)
        self.truths(is_row, [
            (2, "first", (2,)), (2, "first", ((),)), (2, "first", (None,)),
            (7, "prime", ()), (7, "prime", (3,)), (7, "prime", (((2, 1), (3, 1)),)),
            (7, "prime", (3, ((2, 1), (3, 1)), 1)), (7, "prime", (3, (2, 1), (3, 1))), (7, "prime", (3, (2, 1))),
            (15, "split", ()), (15, "split", (3,)), (15, "split", (3, 5, 2)),
            (9, "power", ()), (9, "power", (2, 2)), (8, "root", ()), (8, "root", (3, 3)),
        ], False)
        for pair in ((), (2,), (2, 1, 1), (2, 1, None), ((2, 1),), (2, (1,))):
            self.truths(is_row, [prime_row((pair,)), prime_row((pair, (3, 1))), prime_row(((2, 1), pair))], False)

    def test_a_list_in_place_of_each_tuple(self):
        for number, word, facts in ROWS:
            self.truths(is_row, [[number, word, facts], (number, word, list(facts))], False)
        self.truths(is_row, [
            prime_row([(2, 1), (3, 1)]), prime_row(([2, 1], (3, 1))), prime_row(((2, 1), [3, 1])),
            prime_row([(2, 1)]), prime_row(([2, 1],)),
        ], False)

    def test_true_and_false_in_place_of_each_number(self):
        for truth in (True, False):
            self.truths(is_row, [
                (truth, "first", ()), (truth, "power", (2,)), prime_row(((2, 1),), truth),
                prime_row(((truth, 1),)), prime_row(((2, truth),)), prime_row(((2, 1), (3, truth))),
                (6, "split", (truth, 2)), (6, "split", (2, truth)), (9, "power", (truth,)), (8, "root", (truth,)),
            ], False)

    def test_a_word_that_is_none(self):
        words = [
            "", "First", "FIRST", " first", "first ", "firs", "firsts", "primes", "Prime", "splits", "powers", "roots",
            "second", b"first", b"prime", None, True, 0, 2, 1.5, (), ("first",), ["first"], {"first": 1}, {"prime"},
            EqualToAll(), EqualToNothing(),
        ]
        for number, _, facts in ROWS:
            self.truths(is_row, [(number, word, facts) for word in words], False)

    def test_the_facts_of_another_word(self):
        for word, facts in [row[1:] for row in ROWS]:
            for other in {"first", "prime", "split", "power", "root"} - {word}:
                same = {word, other} == {"power", "root"}
                self.truths(is_row, [(7, other, facts)], same)

    def test_other_things_in_place_of_row_facts_powers_and_pair(self):
        self.truths(is_row, NO_TUPLES, False)
        for word in ("first", "prime", "split", "power", "root"):
            self.truths(is_row, [(7, word, thing) for thing in NO_TUPLES], False)
        self.truths(is_row, [prime_row(thing) for thing in NO_TUPLES], False)
        self.truths(is_row, [prime_row((thing,)) for thing in NO_TUPLES], False)
        self.truths(is_row, [prime_row(((2, 1), thing)) for thing in NO_TUPLES], False)

    def test_the_same_each_time(self):
        asked = [ROW_7, (1, "first", ()), ROW_2, [2, "first", ()], ROW_7]
        for _ in range(2):
            self.assertEqual([is_row(thing) for thing in asked], [True, False, True, False, True])


class TellsAndNeeds(Case):

    def test_what_each_word_tells(self):
        self.truths(tells_prime, [ROW_2, ROW_3, ROW_5, ROW_7, BIG_ROW], True)
        self.truths(tells_prime, [ROW_8, ROW_9, ROW_15], False)

    def test_a_row_tells_by_its_word_alone(self):
        self.truths(tells_prime, [(9, "first", ()), (9, "prime", (2, ((2, 3),)))], True)
        self.truths(tells_prime, [(7, "split", (3, 5)), (7, "power", (2,)), (2, "root", (1,))], False)

    def test_what_each_word_needs(self):
        for row in (ROW_2, ROW_8, ROW_9, ROW_15, (7, "split", (2, 3)), (9, "power", (7,))):
            self.assertEqual(needs(row), [])
        self.assertEqual(needs(ROW_3), [2])
        self.assertEqual(needs(ROW_5), [2])
        self.assertEqual(needs(ROW_7), [2, 3])
        self.assertEqual(needs(BIG_ROW), [2, 3, 5])
        self.assertEqual(needs((9, "prime", (8, ((4, 100), (6, 1), (BOUND, 2))))), [4, 6, BOUND])

    def test_the_list_is_the_askers_own(self):
        for row, wanted in ((ROW_7, [2, 3]), (ROW_2, []), (ROW_9, []), (ROW_15, []), (ROW_8, [])):
            told = needs(row)
            self.assertIs(type(told), list)
            told.append(11)
            told[0] = 13
            self.assertEqual(needs(row), wanted)
            self.assertIsNot(needs(row), needs(row))
        self.assertEqual(ROW_7, (7, "prime", (3, ((2, 1), (3, 1)))))


class Holds(Case):

    def yes(self, row, primes=()):
        with self.subTest(row=shown(row), primes=shown(primes)):
            self.assertIs(holds(row, list(primes)), True)

    def no(self, row, primes=()):
        with self.subTest(row=shown(row), primes=shown(primes)):
            self.assertTrue(is_row(row))
            self.assertIs(holds(row, list(primes)), False)

    def test_first(self):
        self.yes(ROW_2)
        self.yes(ROW_2, [2, 3])
        for number in (3, 4, 5, BOUND):
            self.no((number, "first", ()), [2, 3, 5])

    def test_prime(self):
        self.yes(ROW_3, [2])
        self.yes(ROW_5, [2])
        self.yes(ROW_7, [2, 3])
        self.yes(ROW_7, [3, 2])
        self.yes(ROW_7, [11, 3, 5, 2, 2])
        self.yes((5, "prime", (3, ((2, 2),))), [2])
        self.no((2, "prime", (1, ((2, 1),))), [2])

    def test_prime_q_is_not_told_prime(self):
        self.no(ROW_3)
        self.no(ROW_7)
        self.no(ROW_7, [2])
        self.no(ROW_7, [3])
        self.no(ROW_7, [2, 5, 7])
        self.no(ROW_7, [6])
        self.no((31, "prime", (3, ((2, 1), (3, 1), (5, 1)))), [2, 5])
        self.yes((31, "prime", (3, ((2, 1), (3, 1), (5, 1)))), [2, 5, 3])

    def test_what_is_told_prime_is_taken_as_such(self):
        self.yes((5, "prime", (2, ((4, 1),))), [4])
        self.no((5, "prime", (2, ((4, 1),))), [2])

    def test_prime_powers_do_not_come_to_one_less(self):
        for powers in (((2, 1), (3, 1)), ((2, 3), (3, 1)), ((2, 2), (3, 2)), ((2, 2),), ((3, 1),), ((2, 1),)):
            self.no((13, "prime", (2, powers)), [2, 3])
        self.yes((13, "prime", (2, ((2, 2), (3, 1)))), [2, 3])
        self.no((13, "prime", (2, ((2, 2), (3, 1), (5, 1)))), [2, 3, 5])
        # But for this condition they would show a parted number a prime.
        self.no((15, "prime", (4, ((2, 1),))), [2, 7])
        self.no((9, "prime", (8, ((8, 2),))), [8])

    def test_prime_base_is_not_below_number(self):
        self.no((7, "prime", (10, ((2, 1), (3, 1)))), [2, 3])
        self.no((7, "prime", (7, ((2, 1), (3, 1)))), [2, 3])
        self.no((3, "prime", (5, ((2, 1),))), [2])
        self.no((7, "prime", (7 * 10 ** 20 + 3, ((2, 1), (3, 1)))), [2, 3])
        self.yes((7, "prime", (5, ((2, 1), (3, 1)))), [2, 3])
        self.yes((3, "prime", (2, ((2, 1),))), [2])

    def test_prime_base_does_not_leave_1(self):
        self.no((9, "prime", (2, ((2, 3),))), [2])
        self.no((21, "prime", (2, ((2, 2), (5, 1)))), [2, 5])
        self.no((15, "prime", (2, ((2, 1), (7, 1)))), [2, 7])

    def test_prime_base_leaves_1_already_ahead(self):
        # By 31 the order of 9 is 15, that of 15 is 10, that of 6 is 6, that of 3 is 30.
        powers = ((2, 1), (3, 1), (5, 1))
        for base, order in ((9, 15), (15, 10), (6, 6), (3, 30)):
            self.assertEqual(min(k for k in range(1, 31) if pow(base, k, 31) == 1), order)
        for base in (9, 15, 6, 1, 30):
            self.no((31, "prime", (base, powers)), [2, 3, 5])
        self.yes((31, "prime", (3, powers)), [2, 3, 5])
        self.no((3, "prime", (1, ((2, 1),))), [2])
        self.no((9, "prime", (8, ((2, 3),))), [2])

    def test_split(self):
        for row in ((4, "split", (2, 2)), ROW_15, (15, "split", (5, 3)), (16, "split", (4, 4)), (16, "split", (2, 8))):
            self.yes(row)
            self.yes(row, [2, 3, 5])
        for parts in ((2, 7), (3, 3), (5, 5), (3, 10), (15, 15), (2, 2), (6, 10), (15, 2)):
            self.no((15, "split", parts), [2, 3, 5])
        self.no((7, "split", (7, 2)))
        self.no((6, "split", (4, 3)))

    def test_power(self):
        for row in (ROW_9, (9, "power", (3,)), (9, "power", (7,)), (4, "power", (3,)), (341, "power", (3,))):
            self.yes(row)
        self.no((9, "power", (9,)))
        self.no((9, "power", (11,)))
        self.no((7, "power", (7,)))
        self.no((7, "power", (14,)))
        self.no((9, "power", (1,)))
        self.no((9, "power", (8,)))
        self.no((341, "power", (2,)))
        self.no((2, "power", (1,)))
        for base in range(1, 14):
            self.no((13, "power", (base,)), [2, 3])

    def test_root(self):
        for row in (ROW_8, (8, "root", (5,)), (15, "root", (4,)), (15, "root", (11,)), (21, "root", (8,))):
            self.yes(row)
        for base in (1, 2, 4, 6, 7, 8, 9, 11, 13, 15, 8 * 10 ** 20 + 3):
            self.no((8, "root", (base,)))
        for base in range(1, 16):
            self.no((7, "root", (base,)))
        self.no((2, "root", (1,)))
        self.no((3, "root", (2,)))
        self.no((4, "root", (3,)))

    def test_against_reckoning_anew(self):
        primes = [5, 2, 7, 3]
        for number, base in product(range(2, 34), range(1, 40)):
            self.assertIs(holds((number, "first", ()), primes), number == 2)
            power = base < number and base ** (number - 1) % number != 1
            self.assertIs(holds((number, "power", (base,)), primes), power)
            root = base in range(2, number - 1) and base ** 2 % number == 1
            self.assertIs(holds((number, "root", (base,)), primes), root)
            for q, times in product(range(2, 9), range(1, 5)):
                wanted = (
                    q in primes and q ** times == number - 1 and base < number
                    and base ** (number - 1) % number == 1 and base ** ((number - 1) // q) % number != 1
                )
                self.assertIs(holds((number, "prime", (base, ((q, times),))), primes), wanted)

    def test_a_row_that_holds_tells_what_is_so(self):
        primes = [number for number in range(2, 120) if is_prime(number)]
        for number in range(2, 120):
            powers = divisors_of_prime_kind(number - 1)
            choices = {powers, powers[1:], powers[:-1], tuple((q, 1) for q, _ in powers)} - {()}
            shown = False
            for base in range(1, number + 3):
                for some in choices:
                    if holds((number, "prime", (base, some)), primes):
                        self.assertTrue(is_prime(number))
                        shown = True
                for word in ("power", "root"):
                    if holds((number, word, (base,)), primes):
                        self.assertFalse(is_prime(number))
            self.assertEqual(shown, is_prime(number) and number > 2)
            self.assertTrue(holds(row_of(number), primes))

    def test_numbers_to_the_bound(self):
        self.yes(BIG_ROW, [2, 3, 5])
        for q in (2, 3, 5):
            self.no(BIG_ROW, [p for p in (2, 3, 5) if p != q])
            base = pow(13, q, BIG)
            self.no((BIG, "prime", (base, BIG_ROW[2][1])), [2, 3, 5])
        self.no((BIG, "prime", (13, ((2, 26), (3, 44), (5, 1)))), [2, 3, 5])
        self.no((BIG, "power", (13,)))
        self.no((BIG, "root", (13,)))
        self.no((BIG + 2, "prime", (13, BIG_ROW[2][1])), [2, 3, 5])
        self.yes((BOUND, "split", (10 ** 15, 10 ** 15)))
        self.no((BOUND, "split", (10 ** 15, 10 ** 15 + 1)))
        self.no((BOUND, "split", (BOUND, BOUND)))
        self.yes((BOUND, "power", (2,)))
        self.no((BOUND, "power", (1,)))
        self.no((BOUND, "power", (BOUND,)))
        self.yes((BOUND, "root", (BOUND // 2 + 1,)))
        self.yes((BOUND, "root", (BOUND // 2 - 1,)))
        self.no((BOUND, "root", (BOUND // 2,)))
        self.no((BOUND, "root", (BOUND - 1,)))
        self.no((BOUND, "first", ()))

    def test_many_powers_at_once(self):
        many = tuple((q, 100) for q in range(2, 20002))
        self.no((7, "prime", (3, many)), [2, 3])
        self.no((BOUND, "prime", (3, many)), [q for q, _ in many])

    def test_the_list_stays_as_it_was(self):
        for row in (*ROWS, (9, "prime", (2, ((2, 3),))), (7, "split", (2, 3)), (9, "power", (8,)), (8, "root", (7,))):
            for primes in ([], [5, 3, 2], [2, 2, 3, 7], [7, 11]):
                before = list(primes)
                holds(row, primes)
                self.assertEqual(primes, before)

    def test_nothing_hangs_on_what_was_asked_before(self):
        for _ in range(2):
            self.yes(ROW_7, [2, 3])
            self.no(ROW_7, [])
            self.no(ROW_7, [2])
            self.no(ROW_7, [3])
        primes = [2]
        self.assertIs(holds(ROW_7, primes), False)
        primes.append(3)
        self.assertIs(holds(ROW_7, primes), True)
        primes.remove(2)
        self.assertIs(holds(ROW_7, primes), False)


if __name__ == "__main__":
    unittest.main()
