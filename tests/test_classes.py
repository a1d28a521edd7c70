import itertools
import math
import unittest

from circlenotes.desk import classes, form


def turned(n, a, r):
    return tuple(sorted((place + r) % n for place in a))


def classes_by_turning(n, k):
    """Takes every set of k places and strikes out all its turned ones with it."""
    left = set(itertools.combinations(range(n), k))
    count = 0
    while left:
        a = left.pop()
        left -= {turned(n, a, r) for r in range(n)}
        count += 1
    return [0, count]


def first_forms(n, mirror, k):
    return {tuple(form(n, mirror, list(a))[1:]) for a in itertools.combinations(range(n), k)}


def classes_by_divisors(n, k):
    """Puts together the turns of which the d-th, and none ahead of it, comes back to the start."""
    total = 0
    for d in range(1, n + 1):
        if n % d == 0 and k % d == 0:
            turns = len([r for r in range(1, d + 1) if math.gcd(r, d) == 1])
            total += turns * math.comb(n // d, k // d)
    return [0, total // n]


class OrdinaryNumbers(unittest.TestCase):
    def test_counted_by_hand(self):
        # 0 1, 0 2 and 0 3.
        self.assertEqual(classes(6, 2), [0, 3])
        # 0 1 2, 0 1 3, 0 1 4 and 0 2 4.
        self.assertEqual(classes(6, 3), [0, 4])
        # 0 1 and 0 2.
        self.assertEqual(classes(4, 2), [0, 2])
        # 0 1 2, 0 1 3, 0 1 4, 0 1 5 and 0 2 4; 0 1 3 and 0 1 5 are each other mirrored, but not turned.
        self.assertEqual(classes(7, 3), [0, 5])

    def test_mirrored_sets_count_by_themselves(self):
        # With mirroring there would be 10.
        self.assertEqual(classes(9, 4), [0, 14])
        self.assertEqual(len(first_forms(9, 1, 4)), 10)

    def test_every_n_up_to_10_and_every_k(self):
        for n in range(1, 11):
            for k in range(n + 1):
                self.assertEqual(classes(n, k), classes_by_turning(n, k), (n, k))

    def test_as_many_as_there_are_first_forms(self):
        for n in range(1, 9):
            for k in range(n + 1):
                self.assertEqual(classes(n, k), [0, len(first_forms(n, 0, k))], (n, k))

    def test_circle_of_10(self):
        found = [classes(10, k) for k in range(11)]
        self.assertEqual(found, [[0, count] for count in (1, 1, 5, 12, 22, 26, 22, 12, 5, 1, 1)])


class Edges(unittest.TestCase):
    def test_no_place(self):
        for n in range(1, 65):
            self.assertEqual(classes(n, 0), [0, 1], n)

    def test_one_place(self):
        for n in range(1, 65):
            self.assertEqual(classes(n, 1), [0, 1], n)

    def test_full_circle(self):
        for n in range(1, 65):
            self.assertEqual(classes(n, n), [0, 1], n)

    def test_circle_of_1(self):
        self.assertEqual(classes(1, 0), [0, 1])
        self.assertEqual(classes(1, 1), [0, 1])

    def test_larger_circles(self):
        self.assertEqual([classes(12, k)[1] for k in range(13)], [1, 1, 6, 19, 43, 66, 80, 66, 43, 19, 6, 1, 1])
        for n in range(2, 65):
            self.assertEqual(classes(n, 2), [0, n // 2], n)
        # On a circle of a prime number of places only turning by 0 leaves a set as it is.
        for k in range(1, 61):
            self.assertEqual(classes(61, k), [0, math.comb(61, k) // 61], k)
        for n in (11, 12, 30, 36, 60, 63, 64):
            for k in range(n + 1):
                self.assertEqual(classes(n, k), classes_by_divisors(n, k), (n, k))


class Refusals(unittest.TestCase):
    def test_n_out_of_range(self):
        for k in (0, 1, 4294967295):
            self.assertEqual(classes(0, k), [-2], k)
        for k in (0, 1, 10, 64, 65, 66, 4294967295):
            self.assertEqual(classes(65, k), [-2], k)
        for n in (66, 127, 128, 129):
            for k in (0, 1, n, n + 1):
                self.assertEqual(classes(n, k), [-2], (n, k))
        for k in (0, 1, 4294967294, 4294967295):
            self.assertEqual(classes(4294967295, k), [-2], k)

    def test_k_out_of_range(self):
        for n in range(1, 65):
            for k in (n + 1, n + 2, 2 * n + 1, 4294967295):
                self.assertEqual(classes(n, k), [-2], (n, k))

    def test_last_numbers_are_not_refused(self):
        for n in (1, 10, 63, 64):
            for k in (0, n):
                self.assertEqual(classes(n, k), [0, 1], (n, k))


if __name__ == "__main__":
    unittest.main()
