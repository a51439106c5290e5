"""The calls of pointdigits. Each answers a list of whole numbers; a refusal is -2 alone."""

REFUSAL = -2
LEAST_BASE = 2
GREATEST_BASE = 36
GREATEST_PART = 1000000000
MOST_DIGITS = 4096
MOST_AHEAD = 5
MOST_ROUND = 5


def is_base(q):
    return LEAST_BASE <= q <= GREATEST_BASE


def is_fraction(a, b):
    return 0 <= a <= GREATEST_PART and 1 <= b <= GREATEST_PART


def is_stretch(i, n):
    return i >= 1 and 0 <= n <= MOST_DIGITS


def power_left(q, exponent, b):
    """What q to the power exponent leaves by b."""
    # Halving the exponent keeps this at one round a bit: the exponent may be near 2 to the power 64.
    left = 1 % b
    square = q % b
    rest = exponent
    while rest > 0:
        if rest % 2 == 1:
            left = left * square % b
        square = square * square % b
        rest = rest // 2
    return left


def digits(q, a, b, i, n):
    """n, then the digits i, i + 1 and so on of a by b in base q, n of them; or -2."""
    if not (is_base(q) and is_fraction(a, b) and is_stretch(i, n)):
        return [REFUSAL]
    answer = [n]
    # The whole multiples of b that are dropped here add whole multiples of q to the digits to come: they change none.
    left = a * power_left(q, i - 1, b) % b
    for step in range(n):
        answer.append(left * q // b)
        left = left * q % b
    return answer


def are_lengths(m, n):
    return 0 <= m <= MOST_AHEAD and 1 <= n <= MOST_ROUND


def are_digits(q, row):
    return all([number < q for number in row])


def whole_power(q, exponent):
    """q to the power exponent; only a few are asked for, so step by step will do."""
    power = 1
    for step in range(exponent):
        power = power * q
    return power


def whole_number(q, row):
    """The whole number whose digits in base q are those of row."""
    number = 0
    for digit in row:
        number = number * q + digit
    return number


def greatest_divisor(above, below):
    """The greatest whole number that divides both; below isn't 0."""
    divisor = below
    rest = above % below
    while rest > 0:
        left = divisor % rest
        divisor = rest
        rest = left
    return divisor


def back(q, m, n, l, r):
    """0, then what's above and what's below of the fraction with the digits l and then r, again and again; or -2."""
    if not (is_base(q) and are_lengths(m, n) and are_digits(q, l) and are_digits(q, r)):
        return [REFUSAL]
    # Moved by m + n places and by m places, the number has the same digits behind the point: they cancel out.
    above = whole_number(q, l + r) - whole_number(q, l)
    below = whole_power(q, m + n) - whole_power(q, m)
    divisor = greatest_divisor(above, below)
    return [0, above // divisor, below // divisor]
