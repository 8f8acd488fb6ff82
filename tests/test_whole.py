"""What is promised over the whole program: slips from the making to the shelf, the same each time."""

import os
import random
import subprocess
import sys
import unittest
from pathlib import Path

from cases import Case, is_prime_kind, shown

from primeslip.making import grown, made
from primeslip.parts import cut, merged, stands_on
from primeslip.rows import tells_prime
from primeslip.shelf import Shelf
from primeslip.slips import is_slip, lets_by, says
from primeslip.texts import read, written

ROOT = Path(__file__).resolve().parent.parent

TELL_ALL = """
from primeslip.making import grown, made
from primeslip.parts import cut, merged, stands_on
from primeslip.shelf import Shelf
from primeslip.texts import read, written

shelf = Shelf()
for number in (719, 15, 65537, 47, 999983, 561, 31, 2, 1000000, 7):
    print(written(made(number)), shelf.put(read(written(made(number)))))
print(shelf.numbers(), [shelf.told(number) for number in shelf.numbers()], shelf.slip(719))
print(merged([shelf.slip(number) for number in shelf.numbers()]), stands_on(made(719), 719), cut(made(719), 359))
print(grown(43, 3, [made(7), made(3), made(2), made(7)]))
"""


def spoilt(drawn, slip):
    """A slip of which one number, word or row is another one."""
    at = drawn.randrange(len(slip))
    number, word, facts = slip[at]
    choice = drawn.randrange(4)
    if choice == 0:
        number = drawn.randrange(2, 2 * number + 2)
    elif choice == 1:
        word = drawn.choice(["first", "prime", "power", "root", "split"])
    elif choice == 2 and facts and word == "prime":
        facts = (drawn.randrange(1, number + 1), facts[1])
    elif choice == 2 and facts:
        facts = (drawn.randrange(1, number + 1), *facts[1:])
    elif len(slip) > 1:
        return (*slip[:at], *slip[at + 1:])
    return (*slip[:at], (number, word, facts), *slip[at + 1:])


class Whole(Case):

    def test_the_same_in_every_run(self):
        told = []
        for seed in ("0", "1", "2", "77"):
            surroundings = {**os.environ, "PYTHONHASHSEED": seed, "PYTHONDONTWRITEBYTECODE": "1"}
            run = subprocess.run(
                [sys.executable, "-W", "error", "-c", TELL_ALL], cwd=ROOT, env=surroundings,
                capture_output=True, text=True, check=True,
            )
            told.append(run.stdout)
        self.assertGreater(len(told[0]), 500)
        self.assertEqual(set(told), {told[0]})

    def test_what_is_let_by_is_so_however_it_was_spoilt(self):
        drawn = random.Random(5)
        primes = [number for number in range(2, 400) if is_prime_kind(number)]
        let = 0
        for _ in range(6000):
            some = merged([made(drawn.choice(primes)), made(drawn.randrange(2, 400)), made(drawn.choice(primes))])
            slip = spoilt(drawn, some)
            if lets_by(slip):
                let += 1
                for row in slip:
                    self.assertEqual(tells_prime(row), is_prime_kind(row[0]), shown(slip))
        self.assertGreater(let, 500)

    def test_from_the_making_to_the_shelf(self):
        shelf = Shelf()
        shelf.put(merged([made(2), made(3), made(7)]))
        slip = grown(43, 3, [shelf.slip(q) for q in (7, 3, 2)])
        again = read(written(slip))
        self.assertEqual(again, slip)
        self.assertEqual(shelf.put(again), [43])
        self.assertEqual(shelf.slip(43), slip)
        self.assertEqual(cut(slip, 7), shelf.slip(7))
        self.assertEqual(stands_on(slip, 43), [2, 3, 7])
        self.assertEqual(says(shelf.slip(43)), (43, True))

    def test_kinds_of_values(self):
        slip = made(43)
        for thing in (slip, cut(slip, 7), merged([slip]), grown(43, 3, [made(q) for q in (2, 3, 7)]), read(written(slip))):
            self.assertTrue(is_slip(thing))
        shelf = Shelf()
        for thing in (stands_on(slip, 43), shelf.put(slip), shelf.numbers()):
            self.assertIs(type(thing), list)
            self.assertTrue(all(type(number) is int for number in thing))
        self.assertIs(type(shelf.told(43)), str)
        self.assertIsNone(shelf.drop(43))

    def test_lists_that_are_handed_in_and_changed_later_change_no_answer(self):
        slips = [made(7), made(3), made(2)]
        slip = grown(43, 3, slips)
        together = merged(slips)
        before = (slip, together)
        slips.append(made(15))
        slips[0] = made(5)
        self.assertEqual((slip, together), before)
        self.assertEqual(grown(43, 3, [made(2), made(3), made(7)]), slip)


if __name__ == "__main__":
    unittest.main()
