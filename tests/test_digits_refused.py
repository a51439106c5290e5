"""The line ahead of point 1, and point 1 where digits refuses: -2 alone."""

import itertools
import unittest

from pointdigits.desk import digits

GREATEST_WIDE = 18446744073709551615
LEAST_NARROW = -2147483648
GREATEST_NARROW = 2147483647

WRONG_Q = (LEAST_NARROW, -36, -10, -2, -1, 0, 1, 37, 38, 256, GREATEST_NARROW)
WRONG_A = (1000000001, 2 ** 32, 2 ** 63, GREATEST_WIDE)
WRONG_B = (0, 1000000001, 2 ** 32, 2 ** 63, GREATEST_WIDE)
WRONG_N = (LEAST_NARROW, -4096, -2, -1, 4097, 65536, GREATEST_NARROW)

RIGHT_Q = (2, 10, 36)
RIGHT_A = (0, 1, 1000000000)
RIGHT_B = (1, 7, 1000000000)
RIGHT_I = (1, 2, GREATEST_WIDE)
RIGHT_N = (0, 1, 4096)


class OneWrong(unittest.TestCase):
    def check(self, qs, parts_a, parts_b, places, lengths):
        for call in itertools.product(qs, parts_a, parts_b, places, lengths):
            self.assertEqual(digits(*call), [-2], call)

    def test_q(self):
        self.check(WRONG_Q, RIGHT_A, RIGHT_B, RIGHT_I, RIGHT_N)

    def test_a(self):
        self.check(RIGHT_Q, WRONG_A, RIGHT_B, RIGHT_I, RIGHT_N)

    def test_b(self):
        self.check(RIGHT_Q, RIGHT_A, WRONG_B, RIGHT_I, RIGHT_N)

    def test_i(self):
        self.check(RIGHT_Q, RIGHT_A, RIGHT_B, (0,), RIGHT_N)

    def test_n(self):
        self.check(RIGHT_Q, RIGHT_A, RIGHT_B, RIGHT_I, WRONG_N)


class SeveralWrong(unittest.TestCase):
    def test_two_or_more_wrong_are_one_refusal(self):
        values = ((10, 0), (1, 1000000001), (7, 0), (1, 0), (3, -1))
        for call in itertools.product(*values):
            wrong = [value for value, pair in zip(call, values) if value == pair[1]]
            if wrong:
                self.assertEqual(digits(*call), [-2], call)


class JustRight(unittest.TestCase):
    def test_the_edges_themselves_are_not_refused(self):
        for q, a, b, i, n in itertools.product(RIGHT_Q, RIGHT_A, RIGHT_B, RIGHT_I, RIGHT_N):
            answer = digits(q, a, b, i, n)
            self.assertEqual(answer[0], n, (q, a, b, i, n))
            self.assertEqual(len(answer), n + 1, (q, a, b, i, n))


if __name__ == "__main__":
    unittest.main()
