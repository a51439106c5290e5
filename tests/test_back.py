"""Point 2, where back answers a fraction: ordinary inputs and the edges that the document names."""

import itertools
import math
import unittest
from fractions import Fraction

from pointdigits.desk import back, digits

# For each base, the greatest m and n up to which every l and r is tried.
SMALL = ((2, 5, 5), (3, 3, 3), (4, 2, 3), (5, 2, 2), (10, 1, 2), (16, 1, 1), (36, 1, 1))


def every_small_call():
    for q, most_m, most_n in SMALL:
        for m in range(most_m + 1):
            for n in range(1, most_n + 1):
                for row in itertools.product(range(q), repeat=m + n):
                    yield q, m, n, list(row[:m]), list(row[m:])


def written_out(l, r, length):
    """The first digits behind the point: l, and then r again and again."""
    return list(itertools.islice(itertools.chain(l, itertools.cycle(r)), length))


def fraction_by_sum(q, l, r):
    """Place by place; a digit that goes round counts in place k, k + n, k + 2n and so on."""
    total = Fraction(0)
    for place, digit in enumerate(l, start=1):
        total += Fraction(digit, q ** place)
    for place, digit in enumerate(r, start=len(l) + 1):
        total += Fraction(digit, q ** place) / (1 - Fraction(1, q ** len(r)))
    return total


def call_of(q, l, r):
    return q, len(l), len(r), l, r


class BackCase(unittest.TestCase):
    def check(self, q, l, r, above, below):
        self.assertEqual(back(*call_of(q, l, r)), [0, above, below], (q, l, r))

    def check_by_sum(self, q, l, r):
        wanted = fraction_by_sum(q, l, r)
        self.check(q, l, r, wanted.numerator, wanted.denominator)


class OrdinaryInputs(BackCase):
    def test_base_10(self):
        self.check(10, [], [3], 1, 3)
        self.check(10, [1], [6], 1, 6)
        self.check(10, [0, 8], [3], 1, 12)
        self.check(10, [], [0, 2, 4, 3, 9], 1, 41)
        self.check(10, [], [0, 0, 3, 6, 9], 1, 271)
        # 1/100 + 108/99900 = 1107/99900, and both are divided by 27.
        self.check(10, [0, 1], [1, 0, 8], 41, 3700)

    def test_other_bases(self):
        self.check(2, [], [0, 1], 1, 3)
        self.check(2, [0], [0, 1], 1, 6)
        self.check(3, [], [1], 1, 2)
        self.check(7, [], [0, 6], 1, 8)
        self.check(12, [], [2, 4, 9, 7], 1, 5)
        self.check(16, [1], [9], 1, 10)
        self.check(36, [], [0, 35], 1, 37)

    def test_already_in_lowest_terms(self):
        self.check(10, [], [1], 1, 9)
        self.check(10, [], [1, 0], 10, 99)
        self.check(10, [0], [1], 1, 90)
        self.check(10, [], [0, 0, 0, 0, 1], 1, 99999)
        self.check(10, [0, 0, 0, 0, 0], [0, 0, 0, 0, 1], 1, 9999900000)
        self.check(2, [], [0, 0, 1], 1, 7)

    def test_brought_to_lowest_terms(self):
        self.check(10, [], [3, 3], 1, 3)
        self.check(10, [3, 3, 3], [3, 3], 1, 3)
        self.check(10, [], [5, 4], 6, 11)
        self.check(2, [0, 1], [0, 1], 1, 3)
        self.check(16, [8, 8], [8, 8, 8], 8, 15)

    def test_the_row_that_goes_round_may_begin_later(self):
        self.check(10, [], [1, 2], 4, 33)
        self.check(10, [1], [2, 1], 4, 33)
        self.check(10, [1, 2], [1, 2, 1, 2], 4, 33)

    def test_digits_that_come_to_an_end(self):
        self.check(10, [1, 2, 5], [0], 1, 8)
        self.check(2, [1, 0, 1], [0, 0], 5, 8)
        self.check(36, [18], [0, 0, 0, 0, 0], 1, 2)

    def test_every_m_and_n_in_every_base(self):
        for q in range(2, 37):
            for m in range(6):
                for n in range(1, 6):
                    row = [(7 * k * k + 5 * k + m + 3 * n) % q for k in range(m + n)]
                    self.check_by_sum(q, row[:m], row[m:])


class TheDocumentsWords(unittest.TestCase):
    def test_the_digits_are_those_of_the_answer(self):
        for q, m, n, l, r in every_small_call():
            done, above, below = back(q, m, n, l, r)
            self.assertEqual(done, 0, (q, l, r))
            # Two fractions with nothing greater than q ** (m + n) below can't both lie in a gap as narrow as this.
            length = 2 * (m + n) + 1
            self.assertLessEqual(below, q ** (m + n), (q, l, r))
            written = 0
            for digit in written_out(l, r, length):
                written = written * q + digit
            self.assertLessEqual(written * below, above * q ** length, (q, l, r))
            self.assertLessEqual(above * q ** length, (written + 1) * below, (q, l, r))

    def test_the_fraction_reckoned_place_by_place(self):
        for q, m, n, l, r in every_small_call():
            wanted = fraction_by_sum(q, l, r)
            self.assertEqual(back(q, m, n, l, r), [0, wanted.numerator, wanted.denominator], (q, l, r))

    def test_lowest_terms_and_a_whole_part_of_0_or_the_number_1(self):
        for q, m, n, l, r in every_small_call():
            above, below = back(q, m, n, l, r)[1:]
            self.assertGreaterEqual(below, 1, (q, l, r))
            self.assertGreaterEqual(above, 0, (q, l, r))
            self.assertEqual(math.gcd(above, below), 1, (q, l, r))
            self.assertTrue(above < below or (above, below) == (1, 1), (q, l, r))

    def test_the_number_is_1_for_the_greatest_digit_alone_and_no_other(self):
        for q, m, n, l, r in every_small_call():
            is_one = back(q, m, n, l, r) == [0, 1, 1]
            self.assertEqual(is_one, l + r == [q - 1] * (m + n), (q, l, r))

    def test_digits_gives_l_and_then_r_again_and_again(self):
        for q, m, n, l, r in every_small_call():
            if r != [q - 1] * n:
                above, below = back(q, m, n, l, r)[1:]
                self.assertEqual(digits(q, above, below, 1, 24), [24] + written_out(l, r, 24), (q, l, r))


class Edges(BackCase):
    def test_least_and_greatest_base(self):
        for q in (2, 36):
            for l, r in (([], [0]), ([], [1]), ([1, 0], [0, 1]), ([0, 1, 0, 1, 1], [1, 0, 0, 1, 0])):
                self.check_by_sum(q, l, r)
        self.check(2, [], [1, 0], 2, 3)
        self.check(36, [], [1, 0], 36, 1295)
        # 17/36 + 1/37.
        self.check(36, [17], [35, 0], 665, 1332)

    def test_m_0_and_5(self):
        self.check(10, [], [4], 4, 9)
        self.check(10, [1, 2, 3, 4, 5], [6], 37037, 300000)

    def test_n_1_and_5(self):
        self.check(10, [2], [5], 23, 90)
        self.check(10, [2], [0, 0, 0, 0, 5], 200003, 999990)

    def test_all_numbers_0(self):
        for q in range(2, 37):
            for m in range(6):
                for n in range(1, 6):
                    self.check(q, [0] * m, [0] * n, 0, 1)

    def test_the_greatest_digit_alone(self):
        for q in range(2, 37):
            for m in range(6):
                for n in range(1, 6):
                    self.check(q, [q - 1] * m, [q - 1] * n, 1, 1)

    def test_the_greatest_digit_goes_round_behind_others(self):
        self.check(10, [1], [9], 1, 5)
        self.check(10, [0], [9, 9], 1, 10)
        self.check(10, [9, 8], [9], 99, 100)
        self.check(10, [0, 9], [9, 9, 9], 1, 10)
        self.check(2, [0], [1], 1, 2)
        self.check(2, [0, 1, 0], [1, 1], 3, 8)
        self.check(36, [17], [35], 1, 2)
        for q in range(2, 37):
            for n in range(1, 6):
                self.check(q, [0, 0, 0, 0, 0], [q - 1] * n, 1, q ** 5)
                self.check(q, [q - 1, q - 2], [q - 1] * n, q * q - 1, q * q)

    def test_the_longest_rows_in_base_36(self):
        self.check(36, [35] * 5, [35] * 5, 1, 1)
        # What's below is 36 ** 5 * (36 ** 5 - 1), and 1 of it is missing above.
        self.check(36, [35] * 5, [35, 35, 35, 35, 34], 3656158379596799, 3656158379596800)
        self.check(36, [0] * 5, [0, 0, 0, 0, 1], 1, 3656158379596800)
        self.check(36, [35, 35, 35, 35, 34], [35] * 5, 60466175, 60466176)
        self.check_by_sum(36, [35] * 5, [34, 35, 35, 35, 35])
        self.check_by_sum(36, [34, 35, 35, 35, 35], [35] * 5)
        self.check_by_sum(36, [35] * 5, [0, 0, 0, 0, 0])

    def test_0_at_the_front(self):
        self.check(10, [0, 0], [3], 1, 300)
        self.check(10, [], [0, 0, 3], 1, 333)
        # 5/1000 + 9/999000 = 5004/999000, and both are divided by 36.
        self.check(10, [0, 0, 5], [0, 0, 9], 139, 27750)
        self.check_by_sum(36, [0, 0, 0, 0, 35], [0, 0, 0, 0, 35])

    def test_0_at_the_end(self):
        self.check(10, [3, 0, 0], [3], 901, 3000)
        self.check(10, [], [3, 0, 0], 100, 333)
        self.check(10, [5, 0], [9, 0], 28, 55)
        self.check_by_sum(36, [35, 0, 0, 0, 0], [35, 0, 0, 0, 0])


if __name__ == "__main__":
    unittest.main()
