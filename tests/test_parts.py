import unittest

from cases import (
    BIG, BIG_ROW, BOUND, ROW_2, ROW_3, ROW_5, ROW_7, ROW_8, ROW_9, ROW_15, SLIP_7,
    Case, is_prime, needed, row_of, rows_to, shown, stood_on,
)

from primeslip.errors import NoRow
from primeslip.parts import cut, merged, stands_on
from primeslip.slips import lets_by, says

TO_202 = rows_to(202)
MOST = TO_202[:200]
BIG_SLIP = (ROW_2, ROW_3, ROW_5, BIG_ROW)
LET_BY = [(ROW_2,), (ROW_8,), (ROW_15,), (ROW_2, ROW_3), SLIP_7, (*SLIP_7, ROW_8, ROW_9, ROW_15), MOST, BIG_SLIP]

OTHER_7 = (7, "prime", (5, ((2, 1), (3, 1))))


class StandsOn(Case):

    def test_some_by_hand(self):
        self.assertEqual(stands_on(SLIP_7, 7), [2, 3])
        self.assertEqual(stands_on(SLIP_7, 3), [2])
        self.assertEqual(stands_on(SLIP_7, 2), [])
        self.assertEqual(stands_on(BIG_SLIP, BIG), [2, 3, 5])
        # 47 - 1 is 2 * 23, 23 - 1 is 2 * 11, 11 - 1 is 2 * 5.
        self.assertEqual(stands_on(MOST, 47), [2, 5, 11, 23])

    def test_a_parted_number_stands_on_nothing(self):
        for number in (4, 6, 8, 9, 15, 200):
            self.assertEqual(stands_on(MOST, number), [])

    def test_each_number_of_slips_that_are_let_by(self):
        for slip in LET_BY:
            for number, *_ in slip:
                with self.subTest(slip=shown(slip), number=number):
                    told = stands_on(slip, number)
                    self.assertIs(type(told), list)
                    self.assertEqual(told, stood_on(slip, number))
                    self.assertNotIn(number, told)

    def test_no_row_of_the_number(self):
        for slip in LET_BY:
            has = [row[0] for row in slip]
            for number in (-7, -1, 0, 1, 2, 3, 4, 5, 7, 10, 14, 16, 202, BIG - 1, BIG + 1, BOUND, BOUND + 1):
                if number not in has:
                    with self.subTest(slip=shown(slip), number=number):
                        self.assertRaises(NoRow, stands_on, slip, number)

    def test_the_list_is_the_askers_own(self):
        for number, wanted in ((7, [2, 3]), (3, [2]), (2, [])):
            told = stands_on(SLIP_7, number)
            told.append(11)
            told[0] = 13
            self.assertEqual(stands_on(SLIP_7, number), wanted)
            self.assertIsNot(stands_on(SLIP_7, number), stands_on(SLIP_7, number))
            self.assertEqual(cut(SLIP_7, number), SLIP_7[:len(wanted) + 1])

    def test_it_ends_on_slips_that_are_not_let_by(self):
        self.assertEqual(stands_on((ROW_3, ROW_7), 7), [3])
        self.assertEqual(stands_on((ROW_7,), 7), [])
        round_about = ((4, "prime", (1, ((5, 1),))), (5, "prime", (1, ((4, 1), (5, 1), (6, 1)))))
        for number in (4, 5):
            self.assertEqual(stands_on(round_about, number), [4, 5])
            self.assertRaises(NoRow, stands_on, round_about, 6)
            cut(round_about, number)
        many = tuple((q, 1) for q in range(2, 202))
        for number in (2, 100, 201):
            stands_on(tuple((number, "prime", (1, many)) for number in range(2, 202)), number)


class Cut(Case):

    def test_some_by_hand(self):
        self.assertEqual(cut(SLIP_7, 7), SLIP_7)
        self.assertEqual(cut(SLIP_7, 3), (ROW_2, ROW_3))
        self.assertEqual(cut(SLIP_7, 2), (ROW_2,))
        self.assertEqual(cut((*SLIP_7, ROW_9, ROW_15), 9), (ROW_9,))
        self.assertEqual(cut((ROW_2, ROW_3, (4, "split", (2, 2)), ROW_5, ROW_7, ROW_8), 7), SLIP_7)
        self.assertEqual(cut(MOST, 47), tuple(row_of(number) for number in (2, 5, 11, 23, 47)))

    def test_each_number_of_slips_that_are_let_by(self):
        for slip in LET_BY:
            for row in slip:
                number = row[0]
                with self.subTest(slip=shown(slip), number=number):
                    part = cut(slip, number)
                    kept = [*stood_on(slip, number), number]
                    self.assertEqual(part, tuple(row for row in slip if row[0] in kept))
                    self.assertIs(lets_by(part), True)
                    self.assertEqual(says(part), (number, row[1] in ("first", "prime")))
                    self.assertEqual(part[-1], row)
                    self.assertEqual(cut(part, number), part)

    def test_no_row_of_the_number(self):
        for slip in LET_BY:
            has = [row[0] for row in slip]
            for number in (-2, 0, 1, 2, 3, 4, 6, 16, 202, BIG - 1, BIG + 1, BOUND):
                if number not in has:
                    with self.subTest(slip=shown(slip), number=number):
                        self.assertRaises(NoRow, cut, slip, number)

    def test_more_than_200_rows_raise_no_error(self):
        self.assertEqual(cut(TO_202, 7), SLIP_7)
        self.assertEqual(stands_on(TO_202, 199), stood_on(TO_202, 199))


class Merged(Case):

    def test_of_none(self):
        told = merged([])
        self.assertEqual(told, ())
        self.assertIs(type(told), tuple)

    def test_of_one(self):
        for slip in LET_BY:
            self.assertEqual(merged([slip]), slip)
            self.assertEqual(merged([slip, slip]), slip)

    def test_of_several_by_number(self):
        self.assertEqual(merged([(ROW_15,), (ROW_2, ROW_3), (ROW_8,)]), (ROW_2, ROW_3, ROW_8, ROW_15))
        self.assertEqual(merged([(ROW_2, ROW_5), SLIP_7]), (ROW_2, ROW_3, ROW_5, ROW_7))
        self.assertEqual(merged([BIG_SLIP, (ROW_9,), SLIP_7]), (ROW_2, ROW_3, ROW_5, ROW_7, ROW_9, BIG_ROW))

    def test_of_one_number_the_row_of_the_slip_told_first(self):
        other = (ROW_2, ROW_3, OTHER_7)
        self.assertTrue(lets_by(other))
        self.assertEqual(merged([SLIP_7, other]), SLIP_7)
        self.assertEqual(merged([other, SLIP_7]), other)
        self.assertEqual(merged([(ROW_2,), other, SLIP_7]), other)
        self.assertEqual(merged([(ROW_9,), ((9, "split", (3, 3)),), (ROW_8,)]), (ROW_8, ROW_9))
        self.assertEqual(merged([((9, "split", (3, 3)),), (ROW_9,)]), ((9, "split", (3, 3)),))

    def test_of_slips_that_are_let_by_it_is_let_by(self):
        row_43 = (43, "prime", (3, ((2, 1), (3, 1), (7, 1))))
        slips = [(ROW_2, ROW_3, OTHER_7, row_43), SLIP_7, MOST[:99], cut(MOST, 199), cut(MOST, 167), (ROW_15,)]
        for first in slips:
            for second in slips:
                for third in slips[2:]:
                    told = merged([first, second, third])
                    self.assertIs(lets_by(told), True)
                    numbers = {row[0] for slip in (first, second, third) for row in slip}
                    self.assertEqual([row[0] for row in told], sorted(numbers))

    def test_all_cut_parts_come_to_the_whole_again(self):
        parts = [cut(MOST, number) for number in range(2, 202)]
        self.assertEqual(merged(parts), MOST)
        self.assertEqual(merged(parts[::-1]), MOST)
        primes = merged([cut(MOST, number) for number in range(201, 1, -1) if is_prime(number)])
        self.assertEqual(primes, tuple(row for row in MOST if is_prime(row[0])))

    def test_of_slips_that_are_not_let_by(self):
        wrong_3 = (3, "split", (2, 2))
        self.assertEqual(merged([(ROW_7,), (ROW_3,)]), (ROW_3, ROW_7))
        self.assertEqual(merged([(wrong_3,), SLIP_7]), (ROW_2, wrong_3, ROW_7))
        self.assertEqual(merged([SLIP_7, (wrong_3, ROW_5)]), (ROW_2, ROW_3, ROW_5, ROW_7))
        self.assertEqual(merged([((9, "first", ()),), (ROW_9,)]), ((9, "first", ()),))

    def test_more_than_200_rows(self):
        told = merged([TO_202[150:], TO_202[:160]])
        self.assertEqual(told, TO_202)
        self.assertIs(lets_by(told), False)

    def test_the_list_stays_as_it_was(self):
        slips = [(ROW_15,), SLIP_7, (ROW_2, ROW_3, OTHER_7), SLIP_7]
        before = list(slips)
        merged(slips)
        self.assertEqual(slips, before)
        slips.pop()
        self.assertEqual(merged(slips), (*SLIP_7, ROW_15))
        slips.clear()
        self.assertEqual(merged(slips), ())

    def test_needed_rows_are_those_of_the_slips(self):
        for row in merged([MOST[:30], BIG_SLIP]):
            self.assertTrue(set(needed(row)) <= set(range(2, 32)))


if __name__ == "__main__":
    unittest.main()
