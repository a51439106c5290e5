"""Point 1, where digits answers digits: ordinary inputs and the edges that the document names."""

import unittest

from pointdigits.desk import digits

GREATEST_I = 18446744073709551615
GREATEST_PART = 1000000000
MOST_DIGITS = 4096


def digit_by_words(q, a, b, i):
    """Digit i as the document's words tell it, with the whole power written out."""
    return a * q ** i // b % q


def answer_by_words(q, a, b, i, n):
    return [n] + [digit_by_words(q, a, b, i + k) for k in range(n)]


def answer_far_off(q, a, b, i, n):
    """Each digit by itself, from what the power leaves by b times q: no digit rests on the one before."""
    return [n] + [a * pow(q, i + k, b * q) % (b * q) // b for k in range(n)]


class OrdinaryInputs(unittest.TestCase):
    def check(self, call, wanted):
        self.assertEqual(digits(*call), [len(wanted)] + wanted)

    def test_one_by_seven(self):
        self.check((10, 1, 7, 1, 12), [1, 4, 2, 8, 5, 7, 1, 4, 2, 8, 5, 7])

    def test_from_a_later_digit_on(self):
        self.check((10, 1, 7, 3, 5), [2, 8, 5, 7, 1])

    def test_digits_ahead_of_those_that_go_round(self):
        self.check((10, 1, 12, 1, 6), [0, 8, 3, 3, 3, 3])

    def test_other_bases(self):
        self.check((2, 1, 3, 1, 6), [0, 1, 0, 1, 0, 1])
        self.check((3, 1, 2, 1, 4), [1, 1, 1, 1])
        self.check((7, 1, 8, 1, 4), [0, 6, 0, 6])
        self.check((12, 1, 5, 1, 8), [2, 4, 9, 7, 2, 4, 9, 7])
        self.check((16, 1, 10, 1, 5), [1, 9, 9, 9, 9])
        self.check((36, 1, 37, 1, 6), [0, 35, 0, 35, 0, 35])

    def test_a_greater_than_b(self):
        self.check((10, 22, 7, 1, 8), [1, 4, 2, 8, 5, 7, 1, 4])
        self.check((10, 1000, 3, 1, 3), [3, 3, 3])
        self.check((16, 255, 16, 1, 3), [15, 0, 0])

    def test_a_fraction_not_in_lowest_terms(self):
        self.check((10, 6, 42, 1, 6), [1, 4, 2, 8, 5, 7])

    def test_digits_that_come_to_an_end(self):
        self.check((10, 1, 8, 1, 6), [1, 2, 5, 0, 0, 0])
        self.check((2, 5, 8, 1, 5), [1, 0, 1, 0, 0])
        self.check((10, 1, 8, 1000000, 3), [0, 0, 0])


class TheDocumentsWords(unittest.TestCase):
    def test_small_fractions_in_every_base(self):
        for q in range(2, 37):
            for b in range(1, 41):
                for a in (0, 1, 2, b - 1, b, b + 1, 7 * b + 3, 97):
                    wanted = answer_by_words(q, a, b, 1, 14)
                    self.assertEqual(digits(q, a, b, 1, 14), wanted, (q, a, b))

    def test_each_small_i_by_itself(self):
        for q in (2, 3, 10, 16, 35, 36):
            for a, b in ((1, 7), (22, 7), (5, 8), (1, 97), (999999999, 1000000000), (1000000000, 999999937)):
                for i in range(1, 150):
                    wanted = [1, digit_by_words(q, a, b, i)]
                    self.assertEqual(digits(q, a, b, i, 1), wanted, (q, a, b, i))

    def test_the_greatest_digit_never_goes_round_alone(self):
        for q in range(2, 37):
            for b in range(1, 40):
                for a in (1, b - 1, b, b + 1):
                    late = digits(q, a, b, 50, 45)[1:]
                    self.assertNotEqual(late, [q - 1] * 45, (q, a, b))


class Edges(unittest.TestCase):
    def test_least_and_greatest_base(self):
        for q in (2, 36):
            for a, b in ((1, 7), (35, 36), (1, 2), (999999999, 1000000000)):
                self.assertEqual(digits(q, a, b, 1, 60), answer_by_words(q, a, b, 1, 60))

    def test_a_0(self):
        for b in (1, 7, GREATEST_PART):
            for i in (1, 2, GREATEST_I):
                self.assertEqual(digits(10, 0, b, i, 5), [5, 0, 0, 0, 0, 0])

    def test_greatest_a(self):
        self.assertEqual(digits(10, GREATEST_PART, 7, 1, 6), [6, 8, 5, 7, 1, 4, 2])
        for b in (1, 3, 999999937, 999999999, GREATEST_PART):
            self.assertEqual(digits(36, GREATEST_PART, b, 1, 40), answer_by_words(36, GREATEST_PART, b, 1, 40))

    def test_b_1(self):
        for q in (2, 10, 36):
            for a in (0, 1, 7, GREATEST_PART):
                for i in (1, 2, GREATEST_I):
                    self.assertEqual(digits(q, a, 1, i, 3), [3, 0, 0, 0])

    def test_greatest_b(self):
        self.assertEqual(digits(10, 999999999, GREATEST_PART, 1, 11), [11] + [9] * 9 + [0, 0])
        self.assertEqual(digits(10, 1, GREATEST_PART, 1, 11), [11] + [0] * 8 + [1, 0, 0])
        self.assertEqual(digits(10, GREATEST_PART, GREATEST_PART, 1, 3), [3, 0, 0, 0])
        for q in (2, 3, 35, 36):
            for a in (1, 123456789, 999999999):
                self.assertEqual(digits(q, a, GREATEST_PART, 1, 40), answer_by_words(q, a, GREATEST_PART, 1, 40))

    def test_n_0(self):
        for i in (1, GREATEST_I):
            self.assertEqual(digits(10, 1, 7, i, 0), [0])

    def test_n_1(self):
        self.assertEqual(digits(10, 1, 7, 1, 1), [1, 1])
        self.assertEqual(digits(10, 1, 7, 2, 1), [1, 4])

    def test_greatest_n(self):
        self.assertEqual(digits(10, 1, 7, 1, MOST_DIGITS), [MOST_DIGITS] + ([1, 4, 2, 8, 5, 7] * 683)[:MOST_DIGITS])
        for q in (2, 10, 36):
            for i in (1, 4096, GREATEST_I):
                wanted = answer_far_off(q, 999999999, 999999937, i, MOST_DIGITS)
                self.assertEqual(digits(q, 999999999, 999999937, i, MOST_DIGITS), wanted, (q, i))


class GreatI(unittest.TestCase):
    def test_one_by_seven_far_off(self):
        # 18446744073709551615 leaves 3 by 6, and six digits go round.
        self.assertEqual(digits(10, 1, 7, GREATEST_I, 6), [6, 2, 8, 5, 7, 1, 4])

    def test_one_by_three_in_base_2_far_off(self):
        self.assertEqual(digits(2, 1, 3, GREATEST_I, 4), [4, 0, 1, 0, 1])

    def test_each_far_digit_by_itself(self):
        for q in (2, 3, 10, 16, 36):
            for a, b in ((1, 7), (22, 7), (1, 999999937), (GREATEST_PART, 999999999), (123456789, 600000001)):
                for i in (2 ** 31, 2 ** 32 - 1, 2 ** 53 + 1, 2 ** 63 - 1, 2 ** 63, GREATEST_I - 1, GREATEST_I):
                    self.assertEqual(digits(q, a, b, i, 9), answer_far_off(q, a, b, i, 9), (q, a, b, i))

    def test_the_last_i_goes_on_from_the_one_before(self):
        longer = digits(36, 1, 999999937, GREATEST_I - 5, 20)
        self.assertEqual(digits(36, 1, 999999937, GREATEST_I, 15)[1:], longer[6:])


if __name__ == "__main__":
    unittest.main()
