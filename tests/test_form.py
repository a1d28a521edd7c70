import unittest

from circlenotes.desk import form


def places_of(number):
    return [i for i in range(number.bit_length()) if number >> i & 1]


def turned_number(n, number, r):
    return (number << r | number >> (n - r)) & ((1 << n) - 1)


def mirrored_number(n, number):
    return sum(1 << (-i % n) for i in places_of(number))


def form_by_numbers(n, mirror, number):
    turns = [turned_number(n, number, r) for r in range(n)]
    candidates = list(turns)
    if mirror:
        other = mirrored_number(n, number)
        candidates += [turned_number(n, other, r) for r in range(n)]
    return [turns.count(number)] + places_of(min(candidates))


class OrdinarySets(unittest.TestCase):
    def test_already_first(self):
        self.assertEqual(form(12, 0, [0, 4, 7]), [1, 0, 4, 7])

    def test_turned_back(self):
        self.assertEqual(form(12, 0, [2, 7, 11]), [1, 0, 4, 7])

    def test_highest_place_decides(self):
        self.assertEqual(form(12, 0, [0, 1, 6]), [1, 0, 1, 6])
        self.assertEqual(form(12, 0, [0, 6, 7]), [1, 0, 1, 6])
        self.assertEqual(form(7, 0, [0, 1, 3, 5]), [1, 0, 1, 3, 5])
        self.assertEqual(form(7, 0, [0, 2, 3, 5]), [1, 0, 1, 3, 5])

    def test_mirrored_one_comes_first(self):
        self.assertEqual(form(12, 1, [0, 4, 7]), [1, 0, 3, 7])
        self.assertEqual(form(12, 1, [2, 7, 11]), [1, 0, 3, 7])

    def test_mirrored_one_does_not_come_first(self):
        self.assertEqual(form(12, 0, [0, 3, 7]), [1, 0, 3, 7])
        self.assertEqual(form(12, 1, [0, 3, 7]), [1, 0, 3, 7])

    def test_every_set_on_small_circles(self):
        for n in range(1, 9):
            for number in range(1 << n):
                for mirror in (0, 1):
                    answer = form(n, mirror, places_of(number))
                    self.assertEqual(answer, form_by_numbers(n, mirror, number), (n, mirror, number))


class SetsThatStay(unittest.TestCase):
    def test_several_turns(self):
        for mirror in (0, 1):
            self.assertEqual(form(12, mirror, [1, 5, 9]), [3, 0, 4, 8])
            self.assertEqual(form(12, mirror, [2, 5, 8, 11]), [4, 0, 3, 6, 9])
            self.assertEqual(form(12, mirror, [1, 3, 5, 7, 9, 11]), [6, 0, 2, 4, 6, 8, 10])
            self.assertEqual(form(12, mirror, [3, 4, 9, 10]), [2, 0, 1, 6, 7])

    def test_several_turns_and_the_mirrored_one_first(self):
        a = [0, 1, 3, 7, 8, 10]
        self.assertEqual(form(14, 0, a), [2, 0, 1, 3, 7, 8, 10])
        b = [0, 2, 3, 7, 9, 10]
        self.assertEqual(form(14, 0, b), [2, 0, 2, 3, 7, 9, 10])
        self.assertEqual(form(14, 1, a), [2, 0, 1, 3, 7, 8, 10])
        self.assertEqual(form(14, 1, b), [2, 0, 1, 3, 7, 8, 10])

    def test_mirroring_is_not_counted(self):
        self.assertEqual(form(12, 1, [0, 1]), [1, 0, 1])
        self.assertEqual(form(5, 1, [0]), [1, 0])


class Edges(unittest.TestCase):
    def test_empty_set(self):
        for n in (1, 2, 7, 12, 127, 128):
            for mirror in (0, 1):
                self.assertEqual(form(n, mirror, []), [n])

    def test_full_circle(self):
        for n in (1, 2, 7, 12, 127, 128):
            for mirror in (0, 1):
                self.assertEqual(form(n, mirror, list(range(n))), [n] + list(range(n)))

    def test_circle_of_1(self):
        for mirror in (0, 1):
            self.assertEqual(form(1, mirror, []), [1])
            self.assertEqual(form(1, mirror, [0]), [1, 0])

    def test_circle_of_128(self):
        for mirror in (0, 1):
            self.assertEqual(form(128, mirror, [127]), [1, 0])
            self.assertEqual(form(128, mirror, [0, 127]), [1, 0, 1])
            self.assertEqual(form(128, mirror, [5, 69]), [2, 0, 64])
            self.assertEqual(form(128, mirror, list(range(1, 128, 2))), [64] + list(range(0, 128, 2)))
        self.assertEqual(form(128, 0, [3, 123, 127]), [1, 0, 4, 8])
        self.assertEqual(form(128, 0, [2, 123, 127]), [1, 0, 4, 7])
        self.assertEqual(form(128, 1, [2, 123, 127]), [1, 0, 3, 7])

    def test_large_circles(self):
        for n in (31, 32, 33, 63, 64, 65, 127, 128):
            number = sum(1 << place for place in {i * i % n for i in range(1, 20)})
            for mirror in (0, 1):
                self.assertEqual(form(n, mirror, places_of(number)), form_by_numbers(n, mirror, number))


class Refusals(unittest.TestCase):
    def test_n_out_of_range(self):
        for mirror in (0, 1):
            for n in (0, 129, 4294967295):
                self.assertEqual(form(n, mirror, []), [-2], n)
            for n in (129, 4294967295):
                self.assertEqual(form(n, mirror, [0, 1, 127]), [-2], n)

    def test_mirror_out_of_range(self):
        for mirror in (2, 3, 4294967295):
            for n in (1, 12, 128):
                self.assertEqual(form(n, mirror, []), [-2], mirror)
                self.assertEqual(form(n, mirror, [0]), [-2], mirror)

    def test_both_numbers_out_of_range(self):
        self.assertEqual(form(0, 2, []), [-2])
        self.assertEqual(form(4294967295, 4294967295, [0]), [-2])

    def test_place_from_n_on(self):
        for mirror in (0, 1):
            for n in (1, 2, 12, 127):
                self.assertEqual(form(n, mirror, [n]), [-3], n)
                self.assertEqual(form(n, mirror, [0, n]), [-3], n)
                self.assertEqual(form(n, mirror, [0, 127]), [-3], n)
            self.assertEqual(form(12, mirror, [12, 13, 14]), [-3])

    def test_last_place_is_not_refused(self):
        for n in (1, 2, 12, 127, 128):
            self.assertEqual(form(n, 0, [n - 1]), [1, 0], n)

    def test_range_comes_before_set(self):
        for mirror in (0, 1, 2):
            self.assertEqual(form(0, mirror, [0]), [-2])
            self.assertEqual(form(0, mirror, [3, 127]), [-2])
        self.assertEqual(form(12, 2, [12]), [-2])
        self.assertEqual(form(12, 4294967295, [0, 127]), [-2])


if __name__ == "__main__":
    unittest.main()
