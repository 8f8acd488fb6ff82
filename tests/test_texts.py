import unittest

from cases import (
    BIG, BIG_ROW, BOUND, ROW_2, ROW_3, ROW_5, ROW_7, ROW_8, ROW_9, ROW_15, SLIP_7, Case, rows_to, shown,
)

from primeslip.errors import NoText
from primeslip.making import made
from primeslip.slips import is_slip
from primeslip.texts import read, written

TO_202 = rows_to(202)
MOST = TO_202[:200]
BIG_SLIP = (ROW_2, ROW_3, ROW_5, BIG_ROW)

BY_HAND = [
    ((ROW_2,), "2 first"),
    ((ROW_7,), "7 prime 3 2^1 3^1"),
    ((ROW_15,), "15 split 3 5"),
    ((ROW_9,), "9 power 2"),
    ((ROW_8,), "8 root 3"),
    (SLIP_7, "2 first\n3 prime 2 2^1\n7 prime 3 2^1 3^1"),
    ((ROW_5, ROW_9, ROW_15), "5 prime 2 2^2\n9 power 2\n15 split 3 5"),
    (BIG_SLIP, f"2 first\n3 prime 2 2^1\n5 prime 2 2^2\n{BIG} prime 13 2^26 3^45 5^1"),
]

# Slips none of whose rows holds, at the borders of what is a row.
NOT_HELD = [
    ((BOUND, "first", ()),),
    ((2, "split", (2, BOUND)), (3, "split", (BOUND, BOUND))),
    ((BOUND - 1, "power", (1,)), (BOUND, "root", (BOUND,))),
    ((10, "prime", (BOUND, ((2, 100), (3, 1), (10, 10), (BOUND, 100)))),),
    ((9, "prime", (1, ((BOUND, 1),))), (10, "prime", (10, ((2, 1), (100, 100))))),
]
SIGNS = [chr(code) for code in range(ord(" "), ord("~") + 1) if chr(code) != "%"] + ["\n"]


class Written(Case):

    def test_by_hand_sign_by_sign(self):
        for slip, text in BY_HAND:
            with self.subTest(text=text):
                self.assertEqual(written(slip), text)
                self.assertIs(type(written(slip)), str)

    def test_slips_that_are_not_let_by(self):
        self.assertEqual(written(NOT_HELD[0]), "1" + "0" * 30 + " first")
        self.assertEqual(written(NOT_HELD[1]), f"2 split 2 {BOUND}\n3 split {BOUND} {BOUND}")
        self.assertEqual(written(NOT_HELD[2]), "9" * 30 + f" power 1\n{BOUND} root {BOUND}")
        self.assertEqual(written(NOT_HELD[3]), f"10 prime {BOUND} 2^100 3^1 10^10 {BOUND}^100")

    def test_as_many_lines_as_rows(self):
        for slip in (MOST, MOST[:1], SLIP_7, made(999983)):
            text = written(slip)
            self.assertEqual(len(text.split("\n")), len(slip))
            self.assertEqual(text, text.strip())
            self.assertNotIn("  ", text)

    def test_the_same_each_time(self):
        for slip, text in [*BY_HAND, *BY_HAND[::-1]]:
            self.assertEqual(written(slip), text)


class Read(Case):

    def refused(self, *texts):
        for text in texts:
            with self.subTest(text=shown(text)):
                self.assertRaises(NoText, read, text)

    def test_by_hand(self):
        for slip, text in BY_HAND:
            with self.subTest(text=text):
                self.assertEqual(read(text), slip)
                self.assertTrue(is_slip(read(text)))

    def test_written_and_read_again(self):
        for slip in [MOST, MOST[:199], BIG_SLIP, *NOT_HELD, *(made(n) for n in [*range(2, 500), 999983, 65537, 10 ** 6])]:
            with self.subTest(slip=shown(slip)):
                self.assertTrue(is_slip(slip))
                again = read(written(slip))
                self.assertEqual(again, slip)
                self.assertTrue(is_slip(again))

    def test_it_is_not_judged(self):
        self.assertEqual(read("9 first"), ((9, "first", ()),))
        self.assertEqual(read("7 prime 6 2^1 3^1"), ((7, "prime", (6, ((2, 1), (3, 1)))),))
        self.assertEqual(read("7 split 2 2\n8 power 8"), ((7, "split", (2, 2)), (8, "power", (8,))))

    def test_every_text_one_sign_away(self):
        for text in [text for _, text in BY_HAND] + [written(slip) for slip in NOT_HELD]:
            for at in range(len(text) + 1):
                changed = [text[:at] + text[at + 1:]]
                for sign in SIGNS:
                    changed += [text[:at] + sign + text[at:], text[:at] + sign + text[at + 1:]]
                for other in changed:
                    self.slip_of_it_or_refused(other)

    def test_every_two_signs_that_change_places(self):
        text = BY_HAND[5][1] + "\n8 root 3\n9 power 2\n15 split 3 5"
        for a in range(len(text)):
            for b in range(a):
                self.slip_of_it_or_refused(text[:b] + text[a] + text[b + 1:a] + text[b] + text[a + 1:])

    def slip_of_it_or_refused(self, text):
        try:
            slip = read(text)
        except NoText:
            return
        self.assertTrue(is_slip(slip), text)
        self.assertEqual(written(slip), text)

    def test_empty_texts(self):
        self.refused("", " ", "\n", "\n\n", "  \n ")

    def test_line_feeds(self):
        for _, text in BY_HAND:
            self.refused(text + "\n", "\n" + text, text + "\n\n", text.replace(" ", "\n", 1), text.replace("\n", "\n\n") + "\n")
        self.refused("2 first\n\n3 prime 2 2^1", "2 first 3 prime 2 2^1", "7 prime 3 2^1\n3^1", "15 split 3\n5")

    def test_blanks_at_any_place(self):
        text = BY_HAND[5][1] + "\n15 split 3 5"
        read(text)
        for at in range(len(text) + 1):
            self.refused(text[:at] + " " + text[at:])
            if text[at:at + 1] == " ":
                self.refused(text[:at] + text[at + 1:])

    def test_noughts_ahead(self):
        self.refused(
            "02 first", "002 first", "07 prime 3 2^1 3^1", "7 prime 03 2^1 3^1", "7 prime 3 02^1 3^1",
            "7 prime 3 2^01 3^1", "7 prime 3 2^1 03^1", "7 prime 3 2^1 3^01", "015 split 3 5", "15 split 03 5",
            "15 split 3 05", "09 power 2", "9 power 02", "08 root 3", "8 root 03", "0" * 40 + "2 first",
            "9 power " + "0" * 28 + "2", "9 power " + "0" * 5000 + "2", "2 first\n03 prime 2 2^1",
        )

    def test_signs(self):
        self.refused(
            "+2 first", "-2 first", "--2 first", "2. first", "2.0 first", "2e0 first", "2_0 power 3", "0x7 power 3",
            "7 prime +3 2^1 3^1", "7 prime -3 2^1 3^1", "7 prime 3 +2^1 3^1", "7 prime 3 2^+1 3^1", "7 prime 3 2^-1 3^1",
            "15 split +3 5", "15 split -3 -5", "15 split 3 5_0", "9 power +2", "9 power -2", "8 root +3", "8 root -3",
            "15 split 3, 5", "15 split 3*5", "(2, 'first', ())", "2\\first", "1_5 split 3 5", "9 power 1_0",
        )

    def test_words(self):
        self.refused(
            "2", "2 ", " first", "first", "first 2", "2 First", "2 FIRST", "2 firs", "2 firsts", "2 first first",
            "2 prime", "2 second", "7 primes 3 2^1 3^1", "7 square 3", "9 powers 2", "2 2", "2 2 first", "8 root3",
        )

    def test_facts_that_are_none(self):
        self.refused(
            "2 first 2", "2 first 2^1", "2 first ", "7 prime", "7 prime 3", "7 prime 2^1 3^1", "7 prime 3 2 3",
            "7 prime 3 2^ 3^1", "7 prime 3 ^1 3^1", "7 prime 3 ^ 3^1", "7 prime 3 2^1^1 3^1", "7 prime 3 2^^1 3^1",
            "7 prime 3 2^1^ 3^1", "7 prime 3 ^2^1 3^1", "7 prime 3 2 ^1 3^1", "7 prime 3 2^1 3", "7 prime 3 4 2^1",
            "7 prime 3^1 2^1", "15 split", "15 split 3", "15 split 3 5 7", "15 split 3^1 5", "15 split 3^5",
            "9 power", "9 power 2 2", "9 power 2^1", "8 root", "8 root 3 3", "8 root 3^1", "8 root x", "x root 3",
        )

    def test_numbers_that_no_row_has(self):
        above = BOUND + 1
        self.refused(
            "1 first", "0 first", "1 power 2", "0 root 3", f"{above} first", f"{above} power 2",
            "7 prime 0 2^1", f"7 prime {above} 2^1", "7 prime 3 1^1", "7 prime 3 0^1", f"7 prime 3 {above}^1",
            "7 prime 3 2^0", "7 prime 3 2^101", "7 prime 3 2^1 3^0", "7 prime 3 2^1 3^101",
            "7 prime 3 3^1 2^1", "7 prime 3 2^1 2^1", "7 prime 3 2^1 5^1 3^1",
            "15 split 1 15", "15 split 15 1", "15 split 0 2", f"15 split 2 {above}", f"15 split {above} 2",
            "9 power 0", f"9 power {above}", "8 root 0", f"8 root {above}", "9 power " + "9" * 31,
        )

    def test_very_long_figures(self):
        for many in (32, 100, 4299, 4300, 4301, 50000, 1000000):
            long = "7" * many
            self.refused(
                f"{long} first", f"7 prime {long} 2^1 3^1", f"7 prime 3 {long}^1", f"7 prime 3 2^{long}",
                f"15 split {long} 5", f"15 split 3 {long}", f"9 power {long}", f"8 root {long}",
                long, f"7 {long}", f"2 first\n{long} power 2", f"9 power 1{'0' * many}",
            )

    def test_rows_that_do_not_rise(self):
        self.refused(
            "3 prime 2 2^1\n2 first", "2 first\n2 first", "2 first\n7 prime 3 2^1 3^1\n3 prime 2 2^1",
            "9 power 2\n9 split 3 3", "9 power 2\n8 root 3", "10 power 2\n9 power 2",
        )

    def test_200_rows_and_more(self):
        self.assertEqual(read(written(MOST)), MOST)
        self.assertEqual(read(written(TO_202[1:])), TO_202[1:])
        self.refused(written(TO_202), "\n".join(f"{number} power 2" for number in range(2, 202 + 1)))
        self.refused("\n".join(f"{number} power 2" for number in range(2, 20000)))

    def test_lines_that_are_wrong_at_each_place(self):
        lines = written(MOST).split("\n")
        for at in (0, 1, 100, 199):
            for wrong in ("", " ", f"{at + 2}", f"{at + 2} none", f"0{at + 2} power 2", f"{at + 2} power 2 "):
                self.refused("\n".join([*lines[:at], wrong, *lines[at + 1:]]))

    def test_the_same_each_time(self):
        for _ in range(2):
            self.assertEqual(read("2 first"), (ROW_2,))
            self.refused("2 first\n")
            self.assertEqual(read(BY_HAND[5][1]), SLIP_7)


if __name__ == "__main__":
    unittest.main()
