"""The line ahead of point 1, and point 2 where back refuses: -2 alone."""

import itertools
import unittest

from pointdigits.desk import back

LEAST = -2147483648
GREATEST = 2147483647

WRONG_Q = (LEAST, -37, -36, -10, -2, -1, 0, 1, 37, 38, 255, 256, GREATEST)
WRONG_M = (LEAST, -6, -5, -2, -1, 6, 7, 256, GREATEST)
WRONG_N = (LEAST, -5, -2, -1, 0, 6, 7, 256, GREATEST)

RIGHT_Q = (2, 10, 36)
RIGHT_M = range(6)
RIGHT_N = range(1, 6)


def no_digits(q):
    """Numbers that are no digit in base q."""
    return [number for number in (q, q + 1, 255) if number <= 255]


class RefusedCase(unittest.TestCase):
    def check(self, q, m, n, l, r):
        self.assertEqual(back(q, m, n, l, r), [-2], (q, m, n, l, r))


class WrongBase(RefusedCase):
    def test_q(self):
        for q, m, n in itertools.product(WRONG_Q, RIGHT_M, RIGHT_N):
            for number in (0, 1, 35, 255):
                self.check(q, m, n, [number] * m, [number] * n)


class WrongLengths(RefusedCase):
    def test_m(self):
        for q, m, n in itertools.product(RIGHT_Q, WRONG_M, RIGHT_N):
            self.check(q, m, n, [], [])

    def test_n(self):
        for q, m, n in itertools.product(RIGHT_Q, RIGHT_M, WRONG_N):
            self.check(q, m, n, [], [])

    def test_both(self):
        for q, m, n in itertools.product(RIGHT_Q, WRONG_M, WRONG_N):
            self.check(q, m, n, [], [])

    def test_the_base_too(self):
        for q in WRONG_Q:
            for m, n in itertools.chain(
                itertools.product(WRONG_M, RIGHT_N),
                itertools.product(RIGHT_M, WRONG_N),
                itertools.product(WRONG_M, WRONG_N),
            ):
                self.check(q, m, n, [], [])


class WrongNumbers(RefusedCase):
    def check_one_wrong_at_each_place(self, q, m, n, others):
        for place in range(m + n):
            for wrong in no_digits(q):
                row = [others] * (m + n)
                row[place] = wrong
                self.check(q, m, n, row[:m], row[m:])

    def test_one_wrong_number_in_l_or_in_r(self):
        for q in range(2, 37):
            for m, n in itertools.product(RIGHT_M, RIGHT_N):
                self.check_one_wrong_at_each_place(q, m, n, 0)
                self.check_one_wrong_at_each_place(q, m, n, q - 1)

    def test_every_number_that_is_no_digit(self):
        for q in RIGHT_Q:
            for wrong in range(q, 256):
                self.check(q, 1, 1, [wrong], [0])
                self.check(q, 1, 1, [0], [wrong])
                self.check(q, 0, 1, [], [wrong])

    def test_wrong_in_both(self):
        for q in range(2, 37):
            for wrong in no_digits(q):
                self.check(q, 1, 1, [wrong], [wrong])
                self.check(q, 5, 5, [wrong] * 5, [wrong] * 5)


class JustRight(unittest.TestCase):
    def test_the_edges_themselves_are_not_refused(self):
        for q in range(2, 37):
            for m, n in itertools.product(RIGHT_M, RIGHT_N):
                for number in (0, 1, q - 1):
                    answer = back(q, m, n, [number] * m, [number] * n)
                    self.assertEqual(answer[0], 0, (q, m, n, number))
                    self.assertEqual(len(answer), 3, (q, m, n, number))


if __name__ == "__main__":
    unittest.main()
