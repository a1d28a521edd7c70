import fractions
import itertools
import math
import unittest

from circlenotes.desk import even, spread


def walked(n, a, start, i):
    """Steps one by one from start until i places of a have been met."""
    steps = 0
    met = 0
    while met < i:
        steps += 1
        if (start + steps) % n in a:
            met += 1
    return steps


def spread_by_walking(n, a):
    for i in range(1, len(a)):
        share = fractions.Fraction(n * i, len(a))
        for start in a:
            if walked(n, a, start, i) not in (math.floor(share), math.ceil(share)):
                return [0]
    return [1]


def even_sets(n, k):
    return [sorted(even(n, k, m)[1:]) for m in range(n)]


class OrdinarySets(unittest.TestCase):
    def test_spread_evenly(self):
        self.assertEqual(spread(12, [0, 2, 4, 5, 7, 9, 11]), [1])
        self.assertEqual(spread(12, [0, 2, 4, 7, 9]), [1])
        self.assertEqual(spread(12, [1, 4, 7, 10]), [1])
        self.assertEqual(spread(12, [0, 1, 3, 4, 6, 7, 9, 10]), [1])
        self.assertEqual(spread(8, [0, 3, 6]), [1])
        self.assertEqual(spread(16, [0, 3, 6, 10, 13]), [1])

    def test_not_spread_evenly(self):
        self.assertEqual(spread(12, [0, 4, 7]), [0])
        self.assertEqual(spread(12, [0, 1, 2]), [0])
        self.assertEqual(spread(12, [0, 2, 3, 5, 7, 8, 11]), [0])
        self.assertEqual(spread(8, [0, 2, 4]), [0])
        self.assertEqual(spread(16, [0, 3, 6, 10, 12]), [0])

    def test_even_from_each_to_the_next_but_not_further(self):
        # 2 2 1 1: two steps should be 3, and are 4 and 2.
        self.assertEqual(spread(6, [0, 2, 4, 5]), [0])
        self.assertEqual(spread(6, [0, 2, 3, 5]), [1])
        # 2 2 2 2 2 1 1: each 1 or 2, but both 1s side by side.
        self.assertEqual(spread(12, [0, 2, 4, 6, 8, 10, 11]), [0])
        # 2 1 2 2 2 2 1: two steps are 3 or 4, as they should be; three should be 5 or 6, and 1 2 1 round the end is 4.
        self.assertEqual(spread(12, [0, 2, 3, 5, 7, 9, 11]), [0])

    def test_even_for_i_1_and_2_but_not_for_3(self):
        # 1 2 1 2 1 2 2 2: what three steps take is 4, 5 or 6, and should be 4 or 5.
        a = [0, 1, 3, 4, 6, 7, 9, 11]
        for i, spans in ((1, {1, 2}), (2, {3, 4}), (3, {4, 5, 6})):
            self.assertEqual({walked(13, a, start, i) for start in a}, spans)
        self.assertEqual(spread(13, a), [0])

    def test_last_way_round_too_long(self):
        self.assertEqual(spread(11, [0, 3, 6]), [0])
        self.assertEqual(spread(11, [0, 3, 7]), [1])
        self.assertEqual(spread(12, [0, 2, 4, 6]), [0])
        self.assertEqual(spread(128, [0, 42, 84]), [0])
        self.assertEqual(spread(128, [0, 42, 85]), [1])

    def test_last_way_round_too_short(self):
        self.assertEqual(spread(10, [0, 4, 8]), [0])
        self.assertEqual(spread(10, [0, 4, 7]), [1])
        self.assertEqual(spread(7, [0, 2, 4, 6]), [1])
        self.assertEqual(spread(5, [0, 2, 4]), [1])
        self.assertEqual(spread(128, [0, 43, 87]), [0])

    def test_what_even_answers(self):
        for n in (1, 2, 7, 12, 16, 31, 128):
            for k in {1, 2, 3, 5, 7, n // 2, n - 1, n}:
                if 1 <= k <= n:
                    for m in {0, 1, 5, n // 2, n - 1}:
                        if m < n:
                            self.assertEqual(spread(n, sorted(even(n, k, m)[1:])), [1], (n, k, m))

    def test_every_set_on_small_circles(self):
        for n in range(1, 11):
            for size in range(1, n + 1):
                evens = even_sets(n, size)
                for a in itertools.combinations(range(n), size):
                    answer = spread(n, list(a))
                    self.assertEqual(answer, spread_by_walking(n, a), (n, a))
                    self.assertEqual(answer, [1 if list(a) in evens else 0], (n, a))


class Spans(unittest.TestCase):
    def test_exactly(self):
        self.assertEqual(spread(12, [0, 4, 8]), [1])
        self.assertEqual(spread(12, [0, 4, 9]), [0])
        self.assertEqual(spread(12, [0, 3, 8]), [0])
        self.assertEqual(spread(12, [0, 3, 6, 10]), [0])

    def test_rounded_down_and_up(self):
        # 14 / 4 is 3 or 4, 28 / 4 is 7.
        self.assertEqual(spread(14, [0, 3, 7, 10]), [1])
        self.assertEqual(spread(14, [0, 4, 7, 11]), [1])
        self.assertEqual(spread(14, [0, 3, 6, 10]), [0])
        self.assertEqual(spread(14, [0, 4, 8, 11]), [0])
        # One below and one above: 2, 5.
        self.assertEqual(spread(14, [0, 2, 7, 9]), [0])
        self.assertEqual(spread(14, [0, 5, 7, 12]), [0])

    def test_mostly_rounded_down_and_mostly_rounded_up(self):
        self.assertEqual(spread(13, [0, 3, 6, 9]), [1])
        self.assertEqual(spread(15, [0, 4, 8, 12]), [1])
        self.assertEqual(spread(13, [0, 3, 6, 10]), [1])
        self.assertEqual(spread(15, [0, 4, 8, 11]), [1])
        self.assertEqual(spread(13, [0, 3, 6, 8]), [0])
        self.assertEqual(spread(15, [0, 4, 8, 13]), [0])


class Edges(unittest.TestCase):
    def test_one_place(self):
        for n in (1, 2, 7, 12, 127, 128):
            for place in (0, n // 2, n - 1):
                self.assertEqual(spread(n, [place]), [1], (n, place))

    def test_two_places(self):
        for n in (12, 13, 127, 128):
            halves = (n // 2, (n + 1) // 2)
            for first in (0, 1, 5):
                for second in range(first + 1, n):
                    expected = [1 if second - first in halves else 0]
                    self.assertEqual(spread(n, [first, second]), expected, (n, first, second))

    def test_full_circle(self):
        for n in (1, 2, 7, 12, 127, 128):
            self.assertEqual(spread(n, list(range(n))), [1], n)

    def test_full_circle_but_for_one_and_two(self):
        for n in (7, 12, 128):
            for left_out in (0, 3, n - 1):
                self.assertEqual(spread(n, [i for i in range(n) if i != left_out]), [1], (n, left_out))
            self.assertEqual(spread(n, [i for i in range(n) if i not in (0, n // 2)]), [1], n)
            self.assertEqual(spread(n, [i for i in range(n) if i not in (0, n // 2 - 1)]), [0], n)

    def test_circle_of_1(self):
        self.assertEqual(spread(1, [0]), [1])

    def test_circle_of_128(self):
        self.assertEqual(spread(128, list(range(0, 128, 2))), [1])
        self.assertEqual(spread(128, list(range(1, 128, 2))), [1])
        self.assertEqual(spread(128, list(range(0, 64))), [0])
        self.assertEqual(spread(128, list(range(0, 126, 2)) + [127]), [0])
        self.assertEqual(spread(128, [0, 127]), [0])
        a = sorted(even(128, 77, 50)[1:])
        for dropped in range(77):
            b = a[:dropped] + a[dropped + 1:]
            self.assertEqual(spread(128, b), [1 if b in even_sets(128, 76) else 0], dropped)


class Refusals(unittest.TestCase):
    def test_empty_set(self):
        for n in (1, 2, 12, 127, 128):
            self.assertEqual(spread(n, []), [-3], n)

    def test_n_out_of_range(self):
        for n in (129, 4294967295):
            for a in ([0], [0, 1, 127], list(range(128))):
                self.assertEqual(spread(n, a), [-2], (n, a))

    def test_place_from_n_on(self):
        for n in (1, 2, 12, 127):
            self.assertEqual(spread(n, [n]), [-3], n)
            self.assertEqual(spread(n, [0, n]), [-3], n)
            self.assertEqual(spread(n, [127]), [-3], n)
        self.assertEqual(spread(12, [0, 6, 13]), [-3])
        self.assertEqual(spread(12, [12, 13, 14]), [-3])
        self.assertEqual(spread(127, list(range(128))), [-3])

    def test_last_place_is_not_refused(self):
        for n in (2, 12, 127, 128):
            self.assertEqual(spread(n, [n // 2 - 1, n - 1]), [1], n)

    def test_range_comes_before_set(self):
        for a in ([], [0], [3, 127], list(range(128))):
            self.assertEqual(spread(0, a), [-2], a)
        for n in (129, 4294967295):
            self.assertEqual(spread(n, []), [-2], n)


if __name__ == "__main__":
    unittest.main()
