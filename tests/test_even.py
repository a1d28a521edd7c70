import unittest

from circlenotes.desk import even


def even_by_steps(n, k, m):
    """Takes k off again and again instead of dividing, a place further on each time, and from n - 1 to 0."""
    answer = [0]
    for j in range(k):
        place = 0
        left = n * j + m
        while left >= k:
            left -= k
            place = 0 if place == n - 1 else place + 1
        answer.append(place)
    return answer


class OrdinaryNumbers(unittest.TestCase):
    def test_major_scale(self):
        self.assertEqual(even(12, 7, 5), [0, 0, 2, 4, 5, 7, 9, 11])

    def test_m_shifts_the_places(self):
        self.assertEqual(even(12, 7, 0), [0, 0, 1, 3, 5, 6, 8, 10])
        self.assertEqual(even(12, 7, 6), [0, 0, 2, 4, 6, 7, 9, 11])
        self.assertEqual(even(12, 5, 0), [0, 0, 2, 4, 7, 9])
        self.assertEqual(even(12, 5, 11), [0, 2, 4, 7, 9, 11])

    def test_a_rhythm(self):
        self.assertEqual(even(8, 3, 0), [0, 0, 2, 5])
        self.assertEqual(even(8, 3, 1), [0, 0, 3, 5])
        self.assertEqual(even(8, 3, 2), [0, 0, 3, 6])
        self.assertEqual(even(8, 3, 7), [0, 2, 5, 7])

    def test_k_that_divides_n(self):
        self.assertEqual(even(12, 4, 0), [0, 0, 3, 6, 9])
        self.assertEqual(even(12, 4, 3), [0, 0, 3, 6, 9])
        self.assertEqual(even(12, 4, 4), [0, 1, 4, 7, 10])
        self.assertEqual(even(12, 4, 11), [0, 2, 5, 8, 11])

    def test_places_stand_in_the_order_of_j(self):
        for m in range(16):
            answer = even(16, 5, m)
            self.assertEqual(answer[1], m // 5)
            self.assertEqual(answer[2], (16 + m) // 5)
            self.assertEqual(answer[5], (64 + m) // 5)
            self.assertEqual(len(answer), 6)

    def test_every_k_and_m_on_small_circles(self):
        for n in range(1, 15):
            for k in range(1, n + 1):
                for m in range(n):
                    self.assertEqual(even(n, k, m), even_by_steps(n, k, m), (n, k, m))


class Edges(unittest.TestCase):
    def test_one_place(self):
        for n in (1, 2, 7, 12, 127, 128):
            for m in range(n):
                self.assertEqual(even(n, 1, m), [0, m], n)

    def test_as_many_places_as_the_circle_has(self):
        for n in (1, 2, 7, 12, 127, 128):
            for m in (0, n // 2, n - 1):
                self.assertEqual(even(n, n, m), [0] + list(range(n)), (n, m))

    def test_one_place_less_than_the_circle_has(self):
        self.assertEqual(even(5, 4, 0), [0, 0, 1, 2, 3])
        self.assertEqual(even(5, 4, 4), [0, 1, 2, 3, 4])
        self.assertEqual(even(128, 127, 0), [0] + list(range(127)))
        self.assertEqual(even(128, 127, 127), [0] + list(range(1, 128)))

    def test_m_0_and_m_one_less_than_n(self):
        self.assertEqual(even(10, 3, 0), [0, 0, 3, 6])
        self.assertEqual(even(10, 3, 9), [0, 3, 6, 9])

    def test_circle_of_1(self):
        self.assertEqual(even(1, 1, 0), [0, 0])

    def test_circle_of_128(self):
        self.assertEqual(even(128, 3, 0), [0, 0, 42, 85])
        self.assertEqual(even(128, 3, 127), [0, 42, 85, 127])
        self.assertEqual(even(128, 64, 0), [0] + list(range(0, 128, 2)))
        self.assertEqual(even(128, 64, 127), [0] + list(range(1, 128, 2)))
        for k in (5, 63, 65, 100):
            for m in (0, 1, 64, 127):
                self.assertEqual(even(128, k, m), even_by_steps(128, k, m), (k, m))


class Refusals(unittest.TestCase):
    def test_n_out_of_range(self):
        for n in (0, 129, 4294967295):
            self.assertEqual(even(n, 1, 0), [-2], n)
            self.assertEqual(even(n, 0, 0), [-2], n)
        for n in (129, 4294967295):
            self.assertEqual(even(n, 128, 127), [-2], n)
            self.assertEqual(even(n, n, n - 1), [-2], n)

    def test_k_out_of_range(self):
        for n in (1, 2, 12, 127, 128):
            for k in (0, n + 1, 4294967295):
                for m in (0, n - 1):
                    self.assertEqual(even(n, k, m), [-2], (n, k, m))

    def test_m_out_of_range(self):
        for n in (1, 2, 12, 127, 128):
            for m in (n, n + 1, 4294967295):
                for k in (1, n):
                    self.assertEqual(even(n, k, m), [-2], (n, k, m))

    def test_several_out_of_range(self):
        self.assertEqual(even(0, 0, 4294967295), [-2])
        self.assertEqual(even(12, 13, 12), [-2])
        self.assertEqual(even(4294967295, 4294967295, 4294967295), [-2])


if __name__ == "__main__":
    unittest.main()
