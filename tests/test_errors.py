import unittest

from primeslip.errors import Needed, NoNumber, NoRow, NoSlip, NotHeld, NoText, SlipError

SIX = [NoNumber, NoSlip, NoRow, NotHeld, Needed, NoText]


class Refusals(unittest.TestCase):

    def test_any_refusal_is_a_value_error(self):
        self.assertTrue(issubclass(SlipError, ValueError))
        with self.assertRaises(ValueError):
            raise SlipError("any")

    def test_each_is_taken_by_slip_error_and_value_error(self):
        for refusal in SIX:
            for wider in (SlipError, ValueError):
                with self.subTest(refusal=refusal, wider=wider):
                    with self.assertRaises(wider):
                        raise refusal("one")

    def test_none_is_taken_by_another(self):
        self.assertEqual(len(set(SIX)), 6)
        for refusal in SIX:
            for other in SIX:
                with self.subTest(refusal=refusal, other=other):
                    self.assertEqual(issubclass(refusal, other), refusal is other)

    def test_slip_error_is_taken_by_none_of_them(self):
        for refusal in SIX:
            with self.subTest(refusal=refusal):
                self.assertFalse(issubclass(SlipError, refusal))

    def test_each_has_its_own_name(self):
        names = ["NoNumber", "NoSlip", "NoRow", "NotHeld", "Needed", "NoText"]
        self.assertEqual([refusal.__name__ for refusal in SIX], names)


if __name__ == "__main__":
    unittest.main()
