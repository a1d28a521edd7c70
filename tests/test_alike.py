import collections
import itertools
import unittest

from circlenotes.desk import alike, gaps


def turned(n, a, r):
    return sorted((place + r) % n for place in a)


def mirrored(n, a):
    return sorted(-place % n for place in a)


def distances(n, a):
    return collections.Counter((end - start) % n for start in a for end in a)


def steps_round(n, a):
    """From each place to the next, round the circle."""
    return [(end - start) % n for start, end in zip(a, a[1:] + a[:1])]


def is_same_round(steps, other):
    doubled = steps + steps
    return any(doubled[i:i + len(other)] == other for i in range(len(steps)))


def alike_by_steps(n, a, b):
    """Turned sets have the same steps from another start on; mirrored ones have them backwards."""
    if len(a) != len(b):
        return [0]
    steps, other = steps_round(n, a), steps_round(n, b)
    if steps == other or is_same_round(steps, other) or is_same_round(steps[::-1], other):
        return [2]
    return [1 if distances(n, a) == distances(n, b) else 0]


def all_sets(n):
    return [list(a) for size in range(n + 1) for a in itertools.combinations(range(n), size)]


SETS = (
    (12, [0, 4, 7]),
    (12, [1, 3, 4, 9, 10]),
    (12, [0, 1, 4, 6]),
    (12, [2, 5, 8, 11]),
    (7, [0, 1, 3, 5]),
    (13, [4]),
    (128, [0, 1, 3, 64, 100, 127]),
)

# Each row: a circle and two sets with the same gaps that are not each other turned or mirrored.
SAME_GAPS = (
    (12, [0, 1, 4, 6], [0, 1, 3, 7]),
    (8, [0, 1, 3, 4], [0, 1, 2, 5]),
    (12, [0, 1, 3, 5, 6], [0, 1, 2, 4, 7]),
    (128, [0, 16, 48, 64], [0, 16, 32, 80]),
    (128, [0, 1, 3, 8, 9, 11, 12, 13, 15], [0, 1, 3, 4, 5, 7, 12, 13, 15]),
)


class Same(unittest.TestCase):
    def test_b_is_a(self):
        for n, a in SETS:
            self.assertEqual(alike(n, a, list(a)), [2], (n, a))

    def test_one_list_handed_in_twice(self):
        for n, a in SETS:
            self.assertEqual(alike(n, a, a), [2], (n, a))

    def test_b_is_a_turned(self):
        self.assertEqual(alike(12, [0, 4, 7], [2, 7, 11]), [2])
        for n, a in SETS:
            for r in range(n):
                self.assertEqual(alike(n, a, turned(n, a, r)), [2], (n, a, r))
                self.assertEqual(alike(n, turned(n, a, r), a), [2], (n, a, r))

    def test_b_is_a_mirrored(self):
        self.assertEqual(alike(12, [0, 4, 7], [0, 5, 8]), [2])
        for n, a in SETS:
            self.assertEqual(alike(n, a, mirrored(n, a)), [2], (n, a))

    def test_b_is_a_mirrored_and_turned(self):
        self.assertEqual(alike(12, [0, 4, 7], [0, 3, 7]), [2])
        for n, a in SETS:
            b = mirrored(n, a)
            for r in range(n):
                self.assertEqual(alike(n, a, turned(n, b, r)), [2], (n, a, r))
                self.assertEqual(alike(n, turned(n, b, r), a), [2], (n, a, r))


class SameGaps(unittest.TestCase):
    def test_same_gaps(self):
        for n, a, b in SAME_GAPS:
            self.assertEqual(gaps(n, a), gaps(n, b), (n, a, b))
            self.assertEqual(alike(n, a, b), [1], (n, a, b))
            self.assertEqual(alike(n, b, a), [1], (n, a, b))

    def test_turned_and_mirrored(self):
        for n, a, b in SAME_GAPS:
            for r in (1, 5, n - 1):
                self.assertEqual(alike(n, a, turned(n, b, r)), [1], (n, a, b, r))
                self.assertEqual(alike(n, turned(n, a, r), mirrored(n, b)), [1], (n, a, b, r))

    def test_what_is_left_out_of_both(self):
        for n, a, b in SAME_GAPS:
            rest_of_a = [i for i in range(n) if i not in a]
            rest_of_b = [i for i in range(n) if i not in b]
            self.assertEqual(alike(n, rest_of_a, rest_of_b), [1], (n, a, b))


class Different(unittest.TestCase):
    def test_other_gaps(self):
        self.assertEqual(alike(12, [0, 4, 7], [0, 4, 8]), [0])
        self.assertEqual(alike(12, [0, 1, 4, 6], [0, 1, 4, 7]), [0])
        self.assertEqual(alike(12, [0, 1], [0, 2]), [0])
        self.assertEqual(alike(12, [0, 2, 4, 5, 7, 9, 11], [0, 2, 3, 5, 7, 8, 11]), [0])

    def test_same_places_on_another_circle_have_other_gaps(self):
        self.assertEqual(alike(13, [0, 1, 4, 6], [0, 1, 3, 7]), [0])
        self.assertEqual(alike(16, [0, 1, 3, 4], [0, 1, 2, 5]), [0])

    def test_different_sizes(self):
        self.assertEqual(alike(12, [0, 4, 7], [0, 4]), [0])
        self.assertEqual(alike(12, [0, 4], [0, 4, 7]), [0])
        self.assertEqual(alike(12, [0], [0, 6]), [0])
        self.assertEqual(alike(12, list(range(11)), list(range(12))), [0])
        self.assertEqual(alike(128, [0], list(range(128))), [0])


class SmallCircles(unittest.TestCase):
    def test_every_two_sets(self):
        for n in range(1, 7):
            for a in all_sets(n):
                for b in all_sets(n):
                    self.assertEqual(alike(n, a, b), alike_by_steps(n, a, b), (n, a, b))

    def test_two_sets_of_four_with_all_three_answers(self):
        for n in (8, 12):
            fours = [list(a) for a in itertools.combinations(range(n), 4)]
            found = set()
            for a, b in itertools.product(fours[:35], fours):
                answer = alike(n, a, b)
                self.assertEqual(answer, alike_by_steps(n, a, b), (n, a, b))
                found |= {answer[0]}
            self.assertEqual(found, {0, 1, 2}, n)


class Edges(unittest.TestCase):
    def test_two_empty_sets(self):
        for n in (1, 2, 7, 12, 127, 128):
            self.assertEqual(alike(n, [], []), [2], n)

    def test_one_empty_set(self):
        for n in (1, 2, 7, 12, 127, 128):
            for other in ([0], [n - 1], list(range(n))):
                self.assertEqual(alike(n, [], other), [0], (n, other))
                self.assertEqual(alike(n, other, []), [0], (n, other))

    def test_one_place_each(self):
        for n in (1, 2, 7, 12, 127, 128):
            self.assertEqual(alike(n, [0], [n - 1]), [2], n)
            self.assertEqual(alike(n, [n - 1], [n // 2]), [2], n)

    def test_two_full_circles(self):
        for n in (1, 2, 7, 12, 127, 128):
            self.assertEqual(alike(n, list(range(n)), list(range(n))), [2], n)

    def test_circle_of_1(self):
        self.assertEqual(alike(1, [], []), [2])
        self.assertEqual(alike(1, [0], [0]), [2])
        self.assertEqual(alike(1, [], [0]), [0])
        self.assertEqual(alike(1, [0], []), [0])

    def test_circle_of_128(self):
        self.assertEqual(alike(128, [0, 127], [63, 64]), [2])
        self.assertEqual(alike(128, [0, 127], [63, 65]), [0])
        self.assertEqual(alike(128, list(range(0, 128, 2)), list(range(1, 128, 2))), [2])
        self.assertEqual(alike(128, list(range(64)), list(range(64, 128))), [2])
        self.assertEqual(alike(128, list(range(64)), list(range(0, 128, 2))), [0])


class Refusals(unittest.TestCase):
    def test_n_out_of_range(self):
        for n in (0, 129, 4294967295):
            self.assertEqual(alike(n, [], []), [-2], n)
        for n in (129, 4294967295):
            self.assertEqual(alike(n, [0, 1, 127], [0, 1, 127]), [-2], n)
            self.assertEqual(alike(n, [0], list(range(128))), [-2], n)

    def test_place_from_n_on(self):
        for n in (1, 2, 12, 127):
            for good in ([], [0], [n - 1], list(range(n))):
                for bad in ([n], [0, n], [127], [0, 127]):
                    self.assertEqual(alike(n, bad, good), [-3], (n, bad, good))
                    self.assertEqual(alike(n, good, bad), [-3], (n, good, bad))
                    self.assertEqual(alike(n, bad, list(bad)), [-3], (n, bad))
        self.assertEqual(alike(12, [12], [13]), [-3])
        self.assertEqual(alike(12, [0, 4, 7], [4, 7, 12]), [-3])
        self.assertEqual(alike(12, [4, 7, 12], [0, 4, 7]), [-3])

    def test_last_place_is_not_refused(self):
        for n in (2, 12, 127, 128):
            self.assertEqual(alike(n, [n - 2, n - 1], [0, n - 1]), [2], n)

    def test_range_comes_before_set(self):
        for a, b in (([0], []), ([], [0]), ([0], [0]), ([3, 127], [0]), ([0], [3, 127])):
            self.assertEqual(alike(0, a, b), [-2], (a, b))


if __name__ == "__main__":
    unittest.main()
