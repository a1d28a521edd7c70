import unittest

from circlenotes.desk import gaps


def subsets(n):
    return [[i for i in range(n) if number >> i & 1] for number in range(1 << n)]


def gaps_by_pairs(n, a):
    counts = [0] * n
    for start in a:
        for end in a:
            counts[(end - start) % n] += 1
    return [len(a)] + counts


class OrdinarySets(unittest.TestCase):
    def test_major_scale(self):
        self.assertEqual(gaps(12, [0, 2, 4, 5, 7, 9, 11]), [7, 7, 2, 5, 4, 3, 6, 2, 6, 3, 4, 5, 2])

    def test_a_rhythm_that_does_not_begin_at_0(self):
        self.assertEqual(gaps(8, [1, 4, 7]), [3, 3, 0, 1, 2, 0, 2, 1, 0])

    def test_one_place(self):
        self.assertEqual(gaps(5, [3]), [1, 1, 0, 0, 0, 0])

    def test_half_a_circle_apart_counts_from_both_places(self):
        self.assertEqual(gaps(6, [1, 4]), [2, 2, 0, 0, 2, 0, 0])

    def test_last_place_goes_round_to_0(self):
        self.assertEqual(gaps(4, [0, 3]), [2, 2, 1, 0, 1])

    def test_every_set_on_small_circles(self):
        for n in range(1, 9):
            for a in subsets(n):
                self.assertEqual(gaps(n, a), gaps_by_pairs(n, a), (n, a))


class Edges(unittest.TestCase):
    def test_empty_set(self):
        for n in (1, 2, 7, 12, 127, 128):
            self.assertEqual(gaps(n, []), [0] + [0] * n)

    def test_full_circle(self):
        for n in (1, 2, 7, 12, 127, 128):
            self.assertEqual(gaps(n, list(range(n))), [n] + [n] * n)

    def test_circle_of_1(self):
        self.assertEqual(gaps(1, []), [0, 0])
        self.assertEqual(gaps(1, [0]), [1, 1])

    def test_circle_of_128(self):
        self.assertEqual(gaps(128, [0, 127]), [2, 2, 1] + [0] * 125 + [1])
        self.assertEqual(gaps(128, [5, 69]), [2, 2] + [0] * 63 + [2] + [0] * 63)
        a = [i * i for i in range(12)]
        self.assertEqual(gaps(128, a), gaps_by_pairs(128, a))


class Refusals(unittest.TestCase):
    def test_n_out_of_range(self):
        for n in (0, 129, 4294967295):
            self.assertEqual(gaps(n, []), [-2], n)
        for n in (129, 4294967295):
            self.assertEqual(gaps(n, [0, 1, 127]), [-2], n)

    def test_place_n_itself(self):
        for n in (1, 2, 12, 127):
            self.assertEqual(gaps(n, [n]), [-3], n)
            self.assertEqual(gaps(n, [0, n]), [-3], n)

    def test_place_above_n(self):
        self.assertEqual(gaps(12, [0, 4, 13]), [-3])
        self.assertEqual(gaps(12, [0, 4, 127]), [-3])
        self.assertEqual(gaps(12, [12, 13, 14]), [-3])

    def test_last_place_is_not_refused(self):
        for n in (1, 2, 12, 127, 128):
            self.assertEqual(gaps(n, [n - 1]), [1, 1] + [0] * (n - 1), n)

    def test_range_comes_before_set(self):
        self.assertEqual(gaps(0, [0]), [-2])
        self.assertEqual(gaps(0, [3, 127]), [-2])


if __name__ == "__main__":
    unittest.main()
