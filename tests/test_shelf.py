import random
import unittest

from cases import (
    BIG, BIG_ROW, BOUND, NO_TUPLES, ROW_2, ROW_3, ROW_5, ROW_7, ROW_8, ROW_9, ROW_15, SLIP_7,
    Case, is_prime_kind, needed, rows_to, shown, stood_on,
)

from primeslip.errors import Needed, NoRow, NotHeld
from primeslip.making import grown, made
from primeslip.parts import merged
from primeslip.shelf import Shelf
from primeslip.slips import lets_by, says

MOST = rows_to(201)
OTHER_7 = (7, "prime", (5, ((2, 1), (3, 1))))
BY_5 = (ROW_2, ROW_3, OTHER_7)
ROW_43 = (43, "prime", (3, ((2, 1), (3, 1), (7, 1))))


def with_rows(*slips):
    shelf = Shelf()
    for slip in slips:
        shelf.put(slip)
    return shelf


class ShelfCase(Case):

    def keeps(self, shelf, rows):
        """Asks all that a shelf tells, and holds it against the rows that it should keep."""
        rows = {row[0]: row for row in rows}
        self.assertEqual(shelf.numbers(), sorted(rows))
        for number, row in rows.items():
            prime = row[1] in ("first", "prime")
            self.assertEqual(shelf.told(number), "prime" if prime else "parted")
            self.assertEqual(is_prime_kind(number), prime)
            self.assertTrue(set(needed(row)) <= set(rows))
            part = shelf.slip(number)
            kept = [*stood_on(rows.values(), number), number]
            self.assertEqual(part, tuple(rows[k] for k in sorted(rows) if k in kept))
            self.assertIs(lets_by(part), True)
            self.assertEqual(says(part), (number, prime))
        for number in range(-2, 50):
            if number not in rows:
                self.keeps_none(shelf, number)

    def keeps_none(self, shelf, number):
        self.assertIsNone(shelf.told(number))
        self.assertRaises(NoRow, shelf.slip, number)
        self.assertRaises(NoRow, shelf.drop, number)


class Put(ShelfCase):

    def test_none_at_first(self):
        shelf = Shelf()
        self.assertEqual(shelf.numbers(), [])
        self.keeps(shelf, [])
        for number in (2, 7, BIG, BOUND, BOUND + 1):
            self.keeps_none(shelf, number)

    def test_rows_are_kept_and_their_numbers_told(self):
        shelf = Shelf()
        self.assertEqual(shelf.put(SLIP_7), [2, 3, 7])
        self.keeps(shelf, SLIP_7)
        self.assertEqual(shelf.put((ROW_15,)), [15])
        self.assertEqual(shelf.put((ROW_8, ROW_9)), [8, 9])
        self.keeps(shelf, [*SLIP_7, ROW_8, ROW_9, ROW_15])
        self.assertEqual(shelf.put((ROW_2, ROW_3, ROW_5, BIG_ROW)), [5, BIG])
        self.keeps(shelf, [*SLIP_7, ROW_5, ROW_8, ROW_9, ROW_15, BIG_ROW])
        self.assertEqual(shelf.told(BIG), "prime")
        self.assertEqual(shelf.slip(BIG), (ROW_2, ROW_3, ROW_5, BIG_ROW))

    def test_rows_that_are_there_stay(self):
        for first, second in ((SLIP_7, BY_5), (BY_5, SLIP_7)):
            shelf = with_rows(first)
            self.assertEqual(shelf.put(second), [])
            self.keeps(shelf, first)
            self.assertEqual(shelf.put((*second, ROW_43)), [43])
            self.keeps(shelf, [*first, ROW_43])
            self.assertEqual(shelf.slip(43), (*first, ROW_43))
        shelf = with_rows((ROW_9,))
        self.assertEqual(shelf.put(((9, "split", (3, 3)), ROW_15)), [15])
        self.keeps(shelf, [ROW_9, ROW_15])

    def test_the_same_slip_twice(self):
        shelf = with_rows(SLIP_7)
        self.assertEqual(shelf.put(SLIP_7), [])
        self.assertEqual(shelf.put(SLIP_7[:2]), [])
        self.keeps(shelf, SLIP_7)

    def test_what_is_not_let_by_is_not_held_and_nothing_is_kept(self):
        wrong = [
            *NO_TUPLES, (), ROW_2, [ROW_2], list(SLIP_7), (ROW_3,), (ROW_2, ROW_7), SLIP_7[::-1], (ROW_2, ROW_2),
            ((9, "first", ()),), (ROW_2, (3, "split", (2, 2))), (*SLIP_7, (9, "power", (8,))), rows_to(202),
            (ROW_2, ROW_5, (11, "prime", (2, ((2, 1), (5, 1)))), (13, "prime", (2, ((2, 2), (3, 1))))),
        ]
        empty = Shelf()
        shelf = with_rows(SLIP_7, (ROW_15,))
        for thing in wrong:
            with self.subTest(thing=shown(thing)):
                self.assertRaises(NotHeld, empty.put, thing)
                self.assertRaises(NotHeld, shelf.put, thing)
        self.keeps(empty, [])
        self.keeps(shelf, [*SLIP_7, ROW_15])

    def test_a_slip_is_judged_by_itself_and_not_by_what_is_kept(self):
        shelf = with_rows(SLIP_7)
        self.assertRaises(NotHeld, shelf.put, (ROW_43,))
        self.assertRaises(NotHeld, shelf.put, (ROW_2, ROW_7))
        self.keeps(shelf, SLIP_7)

    def test_made_and_grown_slips(self):
        shelf = Shelf()
        for number in (719, 15, 65537, 999983, 47, 1000000):
            shelf.put(made(number))
            self.assertEqual(shelf.slip(number)[-1], made(number)[-1])
        slip = grown(43, 3, [shelf.slip(2), made(3), made(7)])
        shelf.put(slip)
        self.assertEqual(shelf.told(43), "prime")
        self.assertTrue(lets_by(merged([shelf.slip(number) for number in shelf.numbers()])))


class Drop(ShelfCase):

    def test_a_row_that_nothing_needs(self):
        shelf = with_rows((*SLIP_7, ROW_9, ROW_15))
        self.assertIsNone(shelf.drop(9))
        self.keeps(shelf, [*SLIP_7, ROW_15])
        self.assertIsNone(shelf.drop(7))
        self.keeps(shelf, [ROW_2, ROW_3, ROW_15])
        self.assertIsNone(shelf.drop(3))
        self.assertIsNone(shelf.drop(2))
        self.keeps(shelf, [ROW_15])
        self.assertIsNone(shelf.drop(15))
        self.keeps(shelf, [])

    def test_a_row_that_another_needs(self):
        shelf = with_rows(SLIP_7, (ROW_15,))
        for number in (2, 3, 2):
            self.assertRaises(Needed, shelf.drop, number)
            self.keeps(shelf, [*SLIP_7, ROW_15])
        shelf.drop(7)
        self.assertRaises(Needed, shelf.drop, 2)
        shelf.drop(3)
        shelf.drop(2)
        self.keeps(shelf, [ROW_15])

    def test_a_parted_number_needs_nothing(self):
        shelf = with_rows((ROW_2, ROW_3, ROW_5, ROW_15))
        shelf.drop(5)
        shelf.drop(3)
        shelf.drop(2)
        self.keeps(shelf, [ROW_15])

    def test_needed_by_a_row_of_another_slip(self):
        shelf = with_rows((ROW_2,), (ROW_2, ROW_3), (ROW_2, ROW_5))
        shelf.drop(3)
        self.assertRaises(Needed, shelf.drop, 2)
        shelf.drop(5)
        shelf.drop(2)
        self.keeps(shelf, [])

    def test_no_row(self):
        shelf = with_rows(SLIP_7)
        for number in (-2, 0, 1, 4, 5, 6, 8, BIG, BOUND, BOUND + 1):
            self.keeps_none(shelf, number)
        shelf.drop(7)
        self.keeps_none(shelf, 7)
        self.keeps(shelf, SLIP_7[:2])

    def test_put_again_after_it_was_dropped(self):
        shelf = with_rows(SLIP_7)
        shelf.drop(7)
        self.assertEqual(shelf.put(BY_5), [7])
        self.keeps(shelf, BY_5)
        shelf.drop(7)
        shelf.drop(3)
        self.assertEqual(shelf.put(SLIP_7), [3, 7])
        self.keeps(shelf, SLIP_7)


class Own(ShelfCase):

    def test_lists_are_the_askers_own(self):
        shelf = Shelf()
        for told in (shelf.put(SLIP_7), shelf.numbers(), shelf.put(SLIP_7), shelf.numbers()):
            self.assertIs(type(told), list)
            told.append(11)
            told[0] = 13
            told.reverse()
            self.keeps(shelf, SLIP_7)
        shelf.numbers().clear()
        self.assertIsNot(shelf.numbers(), shelf.numbers())
        self.keeps(shelf, SLIP_7)

    def test_two_shelves_do_not_touch_each_other(self):
        one, other = Shelf(), Shelf()
        one.put(SLIP_7)
        self.keeps(other, [])
        self.assertEqual(other.put(BY_5), [2, 3, 7])
        self.keeps(one, SLIP_7)
        self.keeps(other, BY_5)
        one.drop(7)
        self.keeps(other, BY_5)
        self.keeps(Shelf(), [])

    def test_asking_changes_nothing(self):
        shelf = with_rows(MOST[:40])
        for _ in range(2):
            self.keeps(shelf, MOST[:40])


class ManyDeeds(ShelfCase):

    def test_many_orders(self):
        for seed in range(12):
            self.deeds(random.Random(seed))

    def deeds(self, drawn):
        shelf, rows = Shelf(), {}
        for _ in range(60):
            if drawn.random() < 0.5:
                self.one_put(shelf, rows, drawn)
            else:
                self.one_drop(shelf, rows, drawn.choice([*range(2, 48), *rows]))
            self.keeps(shelf, rows.values())

    def one_put(self, shelf, rows, drawn):
        number = drawn.randrange(2, 48)
        slip = drawn.choice([made(number), BY_5, MOST[:drawn.randrange(1, 12)], (ROW_7,), (*BY_5, ROW_43)])
        if not lets_by(slip):
            self.assertRaises(NotHeld, shelf.put, slip)
            return
        new = [row for row in slip if row[0] not in rows]
        self.assertEqual(shelf.put(slip), [row[0] for row in new])
        rows.update((row[0], row) for row in new)

    def one_drop(self, shelf, rows, number):
        if number not in rows:
            self.assertRaises(NoRow, shelf.drop, number)
        elif any(number in needed(row) for row in rows.values()):
            self.assertRaises(Needed, shelf.drop, number)
        else:
            self.assertIsNone(shelf.drop(number))
            del rows[number]

    def test_150_rows(self):
        shelf = Shelf()
        for number in range(151, 1, -1):
            shelf.put(made(number))
        self.assertEqual(shelf.numbers(), list(range(2, 152)))
        for number in range(2, 152):
            self.assertEqual(shelf.told(number), "prime" if is_prime_kind(number) else "parted")
            self.assertTrue(lets_by(shelf.slip(number)))
        for number in range(151, 1, -1):
            shelf.drop(number)
        self.keeps(shelf, [])


if __name__ == "__main__":
    unittest.main()
