import itertools
import unittest

from circlenotes.desk import gaps, rub

LEAST = -2147483648
GREATEST = 2147483647

# Weights so far apart that a wrong distance shows in the sum.
POWERS = [3 ** d for d in range(19)]


def rub_by_pairs(n, a, w):
    total = 0
    for start, end in itertools.permutations(a, 2):
        steps = 0
        while (start + steps) % n != end:
            steps += 1
        if steps < len(w):
            total += w[steps]
    return [0, total]


class OrdinarySets(unittest.TestCase):
    def test_each_distance_is_weighed_both_ways_round(self):
        # From 0 on: 4 and 7; from 4 on: 3 and 8; from 7 on: 5 and 9.
        self.assertEqual(rub(12, [0, 4, 7], [0, 1, 2, 3, 4, 5, 6, 7, 8, 9, 10, 11]), [0, 36])
        self.assertEqual(rub(12, [0, 4, 7], [0, 0, 0, 1, 10, 100, 0, 1000, 10000, 100000, 0, 0]), [0, 111111])

    def test_each_number_of_w_by_itself(self):
        found = [rub(12, [0, 4, 7], [0] * d + [1])[1] for d in range(12)]
        self.assertEqual(found, [0, 0, 0, 1, 1, 1, 0, 1, 1, 1, 0, 0])

    def test_a_distance_found_several_times(self):
        self.assertEqual(rub(8, [1, 4, 7], [0, 0, 5, 7, 0, 100, 1000, 0]), [0, 5 + 2 * 7 + 2 * 100 + 1000])
        self.assertEqual(rub(12, [0, 2, 4, 5, 7, 9, 11], [0, 10, 1]), [0, 2 * 10 + 5])

    def test_half_a_circle_apart_counts_from_both_places(self):
        self.assertEqual(rub(6, [1, 4], [0, 0, 0, 9, 0, 0]), [0, 18])

    def test_last_place_goes_round_to_0(self):
        self.assertEqual(rub(4, [0, 3], [0, 1, 20, 300]), [0, 301])

    def test_sum_is_of_the_gaps_from_1_on(self):
        a = [0, 1, 4, 6, 13, 17]
        expected = sum(count * weight for count, weight in list(zip(gaps(19, a)[1:], POWERS))[1:])
        self.assertEqual(rub(19, a, POWERS), [0, expected])

    def test_every_set_on_small_circles(self):
        for n in range(1, 9):
            for size in range(n + 1):
                for a in itertools.combinations(range(n), size):
                    for w in (POWERS, POWERS[:n], POWERS[: n // 2], [-5, 4, -3, 2, -1]):
                        self.assertEqual(rub(n, list(a), w), rub_by_pairs(n, a, w), (n, a, w))


class Weights(unittest.TestCase):
    def test_no_weights(self):
        self.assertEqual(rub(12, [0, 4, 7], []), [0, 0])
        self.assertEqual(rub(12, list(range(12)), []), [0, 0])

    def test_first_number_counts_nothing(self):
        for first in (1, 100, LEAST, GREATEST):
            self.assertEqual(rub(12, [0, 4, 7], [first]), [0, 0])
            self.assertEqual(rub(12, list(range(12)), [first]), [0, 0])
            self.assertEqual(rub(12, [0, 4, 7], [first, 0, 0, 1, 10]), [0, 11])
            self.assertEqual(rub(1, [0], [first]), [0, 0])

    def test_shorter_than_the_circle(self):
        self.assertEqual(rub(12, [0, 4, 7], [0, 0, 0, 1, 10, 100]), [0, 111])
        self.assertEqual(rub(12, [0, 4, 7], [0, 0, 0, 1]), [0, 1])
        self.assertEqual(rub(12, [0, 4, 7], [0, 5, 5]), [0, 0])

    def test_longer_than_the_circle(self):
        self.assertEqual(rub(4, [0, 3], [0, 1, 20, 300, 4000, 50000, 600000, 7000000]), [0, 301])
        self.assertEqual(rub(1, [0], [7, 8, 9]), [0, 0])

    def test_128_numbers(self):
        w = list(range(128))
        self.assertEqual(rub(12, [0, 4, 7], w), [0, 36])
        self.assertEqual(rub(128, [0, 127], w), [0, 128])
        self.assertEqual(rub(128, [0, 127], [0] * 127 + [5]), [0, 5])
        self.assertEqual(rub(128, [5, 69, 100], w), [0, 3 * 128])

    def test_negative_numbers(self):
        self.assertEqual(rub(12, [0, 4, 7], [0, 0, 0, -1, -10, -100]), [0, -111])
        self.assertEqual(rub(12, [0, 4, 7], [-9, 0, 0, 7, -7]), [0, 0])
        self.assertEqual(rub(4, [0, 3], [0, -1, 0, 300]), [0, 299])

    def test_least_and_greatest(self):
        self.assertEqual(rub(4, [0, 3], [0, LEAST, 0, LEAST]), [0, -4294967296])
        self.assertEqual(rub(4, [0, 3], [0, GREATEST, 0, GREATEST]), [0, 4294967294])
        self.assertEqual(rub(4, [0, 3], [0, LEAST, 0, GREATEST]), [0, -1])
        self.assertEqual(rub(4, [0, 3], [0, LEAST]), [0, LEAST])
        self.assertEqual(rub(4, [0, 3], [0, GREATEST]), [0, GREATEST])

    def test_the_greatest_sums(self):
        full = list(range(128))
        self.assertEqual(rub(128, full, [LEAST] * 128), [0, -34909494181888])
        self.assertEqual(rub(128, full, [GREATEST] * 128), [0, 34909494165632])


class Edges(unittest.TestCase):
    def test_empty_set(self):
        for n in (1, 2, 7, 12, 127, 128):
            for w in ([], [3], [3, 4, 5], [GREATEST] * 128):
                self.assertEqual(rub(n, [], w), [0, 0], (n, w))

    def test_one_place(self):
        for n in (1, 2, 7, 12, 127, 128):
            for w in ([], [3], [3, 4, 5], [GREATEST] * 128):
                self.assertEqual(rub(n, [0], w), [0, 0], (n, w))
                self.assertEqual(rub(n, [n - 1], w), [0, 0], (n, w))

    def test_full_circle(self):
        self.assertEqual(rub(2, [0, 1], [50, 7]), [0, 14])
        self.assertEqual(rub(12, list(range(12)), [50] + [1] * 11), [0, 132])
        self.assertEqual(rub(12, list(range(12)), [50, 1, 2]), [0, 36])
        self.assertEqual(rub(128, list(range(128)), [50] + [1] * 127), [0, 128 * 127])

    def test_circle_of_1(self):
        self.assertEqual(rub(1, [], [5, 6]), [0, 0])
        self.assertEqual(rub(1, [0], [5, 6]), [0, 0])

    def test_circle_of_128(self):
        self.assertEqual(rub(128, [0, 127], [0, 3]), [0, 3])
        self.assertEqual(rub(128, [5, 69], [0] * 64 + [9]), [0, 18])
        a = [i * i for i in range(12)]
        w = [d * d * d - 5000 for d in range(128)]
        self.assertEqual(rub(128, a, w), rub_by_pairs(128, a, w))
        self.assertEqual(rub(128, a, w[:77]), rub_by_pairs(128, a, w[:77]))


class Refusals(unittest.TestCase):
    def test_n_out_of_range(self):
        for n in (0, 129, 4294967295):
            for w in ([], [1, 2, 3], [LEAST] * 128):
                self.assertEqual(rub(n, [], w), [-2], n)
        for n in (129, 4294967295):
            self.assertEqual(rub(n, [0, 1, 127], [1, 2, 3]), [-2], n)

    def test_place_n_itself(self):
        for n in (1, 2, 12, 127):
            self.assertEqual(rub(n, [n], [1, 2, 3]), [-3], n)
            self.assertEqual(rub(n, [0, n], [1, 2, 3]), [-3], n)
            self.assertEqual(rub(n, [n], []), [-3], n)

    def test_place_above_n(self):
        self.assertEqual(rub(12, [0, 4, 13], [1, 2, 3]), [-3])
        self.assertEqual(rub(12, [0, 4, 127], []), [-3])
        self.assertEqual(rub(12, [12, 13, 14], [0] * 128), [-3])

    def test_last_place_is_not_refused(self):
        for n in (2, 12, 127, 128):
            self.assertEqual(rub(n, [n - 2, n - 1], [4, 5] + [0] * (n - 2)), [0, 10 if n == 2 else 5], n)

    def test_range_comes_before_set(self):
        self.assertEqual(rub(0, [0], [1, 2, 3]), [-2])
        self.assertEqual(rub(0, [3, 127], []), [-2])


if __name__ == "__main__":
    unittest.main()
