import unittest

from cases import (
    BIG, BIG_ROW, BOUND, NO_TUPLES, ROW_2, ROW_3, ROW_5, ROW_7, ROW_8, ROW_9, ROW_15, SLIP_7,
    Case, is_prime, rows_to, shown,
)

from primeslip.slips import is_slip, lets_by, says, wrong_at

TO_202 = rows_to(202)
MOST = TO_202[:200]
BIG_SLIP = (ROW_2, ROW_3, ROW_5, BIG_ROW)
LET_BY = [(ROW_2,), (ROW_8,), (ROW_9,), (ROW_15,), (ROW_2, ROW_3), SLIP_7, (*SLIP_7, ROW_9, ROW_15), MOST, BIG_SLIP]


def spoilt(slip, at, row):
    return (*slip[:at], row, *slip[at + 1:])


class IsSlip(Case):

    def test_slips(self):
        self.truths(is_slip, LET_BY, True)

    def test_slips_that_are_not_let_by_are_slips_too(self):
        self.truths(is_slip, [(ROW_3,), (ROW_7,), ((9, "first", ()),), (ROW_3, ROW_7), ((7, "split", (2, 2)),)], True)

    def test_1_200_and_201_rows_and_none(self):
        self.assertEqual(len(TO_202), 201)
        self.truths(is_slip, [TO_202[:1], TO_202[:2], TO_202[:199], TO_202[:200], TO_202[1:]], True)
        self.truths(is_slip, [(), TO_202], False)
        self.truths(is_slip, [tuple((number, "power", (1,)) for number in range(2, 203))], False)
        self.truths(is_slip, [tuple((number, "power", (1,)) for number in range(2, 100002))], False)

    def test_a_list_of_rows(self):
        self.truths(is_slip, [[ROW_2], list(SLIP_7), [ROW_2, ROW_3], [], (SLIP_7,), (list(ROW_2),)], False)
        self.truths(is_slip, [ROW_2, ROW_7, ROW_15], False)

    def test_numbers_rise(self):
        self.truths(is_slip, [
            (ROW_3, ROW_2), (ROW_3, ROW_2, ROW_7), (ROW_2, ROW_7, ROW_3), (ROW_7, ROW_2, ROW_3), SLIP_7[::-1],
            (ROW_2, ROW_2), (ROW_2, ROW_3, ROW_3), (ROW_2, ROW_2, ROW_3), (ROW_2, ROW_3, ROW_3, ROW_7),
            (ROW_9, (9, "split", (3, 3))), ((9, "split", (3, 3)), ROW_9),
            (*MOST[:100], MOST[101], MOST[100], *MOST[102:]), (*MOST[:198], MOST[199], MOST[198]),
        ], False)

    def test_a_row_spoilt_at_each_place(self):
        for at, row in enumerate(SLIP_7):
            number, word, facts = row
            self.truths(is_slip, [
                spoilt(SLIP_7, at, wrong) for wrong in (
                    [number, word, facts], (number, word, list(facts)), (number, word), (number, word, facts, ()),
                    (number, "none", facts), (True, word, facts), (float(number), word, facts),
                    (str(number), word, facts), (number, word, (0,)), *NO_TUPLES,
                )
            ], False)
        for at in (0, 100, 199):
            self.truths(is_slip, [spoilt(MOST, at, (at + 2, "power", (0,))), spoilt(MOST, at, None)], False)
            self.truths(is_slip, [spoilt(MOST, at, (at + 2, "power", (1,)))], True)
        self.truths(is_slip, [((1, "first", ()), *SLIP_7), (*SLIP_7, (BOUND + 1, "power", (2,)))], False)

    def test_things_that_are_no_tuples(self):
        self.truths(is_slip, NO_TUPLES, False)

    def test_the_same_each_time(self):
        for _ in range(2):
            self.assertEqual(
                [is_slip(thing) for thing in (SLIP_7, (), SLIP_7[::-1], SLIP_7, [ROW_2])],
                [True, False, False, True, False],
            )


class Says(Case):

    def test_the_last_row_of_its_number(self):
        for slip, wanted in (
            ((ROW_2,), (2, True)), (SLIP_7, (7, True)), ((ROW_2, ROW_3), (3, True)), ((ROW_8,), (8, False)),
            ((ROW_9,), (9, False)), ((ROW_15,), (15, False)), ((*SLIP_7, ROW_9), (9, False)),
            ((ROW_9, (11, "prime", (2, ((2, 1), (5, 1))))), (11, True)), (MOST, (201, False)), (BIG_SLIP, (BIG, True)),
        ):
            with self.subTest(slip=shown(slip)):
                told = says(slip)
                self.assertEqual(told, wanted)
                self.assertIs(type(told), tuple)
                self.assertIs(told[1], wanted[1])
                self.assertIs(type(told[0]), int)

    def test_it_is_not_judged(self):
        self.assertEqual(says((ROW_7,)), (7, True))
        self.assertEqual(says(((9, "first", ()),)), (9, True))
        self.assertEqual(says((ROW_2, (7, "split", (2, 2)))), (7, False))

    def test_somewhat_beyond_no_error_is_raised(self):
        self.assertEqual(says(TO_202), (202, False))
        self.assertIs(says(())[1], False)
        self.assertIsNone(wrong_at(TO_202))
        self.assertIsNone(wrong_at(()))


class WrongAt(Case):

    def all_right(self, slip):
        with self.subTest(slip=shown(slip)):
            self.assertIsNone(wrong_at(slip))
            self.assertIs(lets_by(slip), True)

    def wrong(self, slip, at):
        with self.subTest(slip=shown(slip)):
            self.assertTrue(is_slip(slip))
            self.assertEqual(wrong_at(slip), at)
            self.assertIs(type(wrong_at(slip)), int)
            self.assertIs(lets_by(slip), False)

    def test_slips_all_of_whose_rows_hold(self):
        for slip in LET_BY:
            self.all_right(slip)

    def test_the_first_row_that_does_not_hold(self):
        self.wrong(((3, "first", ()),), 0)
        self.wrong(((2, "power", (1,)),), 0)
        for at in (0, 1, 2, 100, 198, 199):
            # By base 1 no number is shown parted.
            self.wrong(spoilt(MOST, at, (at + 2, "power", (1,))), at)
        self.wrong(spoilt(SLIP_7, 2, (7, "prime", (2, ((2, 1), (3, 1))))), 2)
        self.wrong((ROW_2, (3, "prime", (1, ((2, 1),))), ROW_7), 1)

    def test_the_first_of_several(self):
        wrong = (*MOST[:50], (52, "split", (2, 2)), *MOST[51:120], (122, "root", (1,)), *MOST[121:])
        self.wrong(wrong, 50)
        self.wrong(((2, "split", (2, 2)), (3, "split", (2, 2)), (4, "split", (2, 3))), 0)

    def test_a_prime_that_is_missing(self):
        self.wrong((ROW_3,), 0)
        self.wrong((ROW_2, ROW_7), 1)
        self.wrong((ROW_3, ROW_7), 0)
        self.wrong((ROW_2, ROW_3, BIG_ROW), 2)
        self.wrong((ROW_2, ROW_5, BIG_ROW), 2)

    def test_a_prime_that_stands_behind_or_is_the_row_itself(self):
        self.wrong((ROW_2, (5, "prime", (2, ((4, 1),)))), 1)
        self.wrong((ROW_2, (5, "prime", (2, ((7, 1),))), (7, "prime", (3, ((2, 1), (3, 1))))), 1)
        self.wrong((ROW_2, (3, "prime", (2, ((3, 1),)))), 1)
        self.wrong((ROW_3, (4, "split", (2, 2)), ROW_7), 0)

    def test_a_prime_that_a_row_ahead_tells_parted(self):
        # All but that one condition is met: 4 comes to one less than 5.
        self.wrong((ROW_2, (4, "split", (2, 2)), (5, "prime", (2, ((4, 1),)))), 2)
        self.wrong((ROW_2, (6, "split", (2, 3)), (7, "prime", (3, ((6, 1),)))), 2)
        self.wrong((ROW_2, (3, "split", (2, 2)), ROW_7), 1)
        self.wrong(((4, "split", (2, 2)), (6, "split", (2, 3)), (7, "prime", (3, ((6, 1),)))), 2)

    def test_rows_ahead_that_nothing_needs_do_no_harm(self):
        self.all_right((ROW_2, ROW_3, (4, "split", (2, 2)), ROW_5, (6, "split", (2, 3)), ROW_7))
        self.all_right(((4, "split", (2, 2)), (6, "split", (2, 3)), ROW_15))

    def test_nothing_hangs_on_what_was_asked_before(self):
        for _ in range(3):
            self.all_right(SLIP_7)
            self.wrong((ROW_7,), 0)
            self.all_right((ROW_2, ROW_3))
            self.wrong((ROW_3, ROW_7), 0)
            self.wrong((ROW_2, ROW_7), 1)
            self.all_right(BIG_SLIP)
            self.wrong((BIG_ROW,), 0)

    def test_long_slips_of_big_numbers_at_once(self):
        rows = tuple((number, "power", (2,)) for number in range(BOUND - 390, BOUND, 2))
        self.all_right((*SLIP_7, *rows))


class LetsBy(Case):

    def test_slips_that_are_let_by(self):
        self.truths(lets_by, LET_BY, True)

    def test_things_that_are_no_slips(self):
        self.truths(lets_by, NO_TUPLES, False)
        self.truths(lets_by, [
            (), ROW_2, ROW_7, [ROW_2], list(SLIP_7), (SLIP_7,), TO_202, SLIP_7[::-1], (ROW_2, ROW_2), (None,),
            (ROW_2, None), (ROW_2, [3, "prime", (2, ((2, 1),))]), (ROW_2, (3, "prime", (2, [(2, 1)]))),
            ((2, "first", []),), ((2, "prime", (1, ())),), ((True, "power", (2,)),), (*SLIP_7, (8, "square", (3,))),
            (*SLIP_7, (BOUND + 2, "split", (2, BOUND // 2 + 1))),
        ], False)

    def test_what_is_let_by_is_so(self):
        self.assertIs(lets_by(MOST), True)
        for last in range(1, 201):
            slip = MOST[:last]
            self.assertIs(lets_by(slip), True)
            self.assertEqual(says(slip), (last + 1, is_prime(last + 1)))

    def test_no_row_makes_a_number_what_it_is_not(self):
        told = MOST[:40]
        for number in range(42, 130):
            for base in range(1, number + 2):
                for row in (
                    (number, "first", ()), (number, "power", (base,)), (number, "root", (base,)),
                    (number, "split", (base + 1, number // (base + 1) + 2)), (number, "prime", (base, ((number - 1, 1),))),
                    (number, "prime", (base, ((2, 1), ((number - 1) // 2, 1)))),
                ):
                    if lets_by((*told, row)):
                        self.assertEqual(says((*told, row)), (number, is_prime(number)))


if __name__ == "__main__":
    unittest.main()
