"""All seven calls together: the least and the greatest that may be handed in, and the calls in any order."""

import copy
import importlib.util
import itertools
import unittest

from circlenotes import desk

GREATEST = 4294967295
LEAST_WEIGHT = -2147483648
GREATEST_WEIGHT = 2147483647

EMPTY = []
FULL = list(range(128))
SETS = (EMPTY, FULL)
WEIGHTS = (EMPTY, [LEAST_WEIGHT] * 128, [GREATEST_WEIGHT] * 128)
ENDS = (0, GREATEST)


def refused(name, number, all_arguments):
    return [(name, arguments, [number]) for arguments in all_arguments]


# Each row: a call's name, what is handed in, and what is answered.
GAPS = refused("gaps", -2, itertools.product((0, 129, GREATEST), SETS)) + [
    ("gaps", (1, EMPTY), [0, 0]),
    ("gaps", (1, FULL), [-3]),
    ("gaps", (127, FULL), [-3]),
    ("gaps", (128, EMPTY), [0] * 129),
    ("gaps", (128, FULL), [128] * 129),
]

FORM = (
    refused("form", -2, itertools.product((0, 129, GREATEST), (0, 1, 2, GREATEST), SETS))
    + refused("form", -2, itertools.product((1, 127, 128), (2, GREATEST), SETS))
    + refused("form", -3, itertools.product((1, 127), (0, 1), [FULL]))
    + [("form", (n, mirror, EMPTY), [n]) for n in (1, 128) for mirror in (0, 1)]
    + [("form", (128, mirror, FULL), [128] + FULL) for mirror in (0, 1)]
)

RUB = (
    refused("rub", -2, itertools.product((0, 129, GREATEST), SETS, WEIGHTS))
    + refused("rub", -3, itertools.product((1, 127), [FULL], WEIGHTS))
    + [("rub", (n, EMPTY, weights), [0, 0]) for n in (1, 128) for weights in WEIGHTS]
    + [
        ("rub", (128, FULL, EMPTY), [0, 0]),
        ("rub", (128, FULL, [LEAST_WEIGHT] * 128), [0, 128 * 127 * LEAST_WEIGHT]),
        ("rub", (128, FULL, [GREATEST_WEIGHT] * 128), [0, 128 * 127 * GREATEST_WEIGHT]),
    ]
)

EVEN = (
    refused("even", -2, itertools.product(ENDS, ENDS, ENDS))
    + refused("even", -2, itertools.product((1, 128), ENDS, (0, GREATEST)))
    + refused("even", -2, [(1, 1, GREATEST), (128, 128, GREATEST), (1, 1, 1), (128, 128, 128), (129, 1, 0)])
    + [("even", (1, 1, 0), [0, 0]), ("even", (128, 128, 0), [0] + FULL), ("even", (128, 128, 127), [0] + FULL)]
    + [("even", (128, 1, 0), [0, 0]), ("even", (128, 1, 127), [0, 127])]
)

SPREAD = refused("spread", -2, itertools.product((0, 129, GREATEST), SETS)) + [
    ("spread", (1, EMPTY), [-3]),
    ("spread", (1, FULL), [-3]),
    ("spread", (127, FULL), [-3]),
    ("spread", (128, EMPTY), [-3]),
    ("spread", (128, FULL), [1]),
]

ALIKE = (
    refused("alike", -2, itertools.product((0, 129, GREATEST), SETS, SETS))
    + [("alike", (n, EMPTY, EMPTY), [2]) for n in (1, 127, 128)]
    + refused("alike", -3, itertools.product((1, 127), [FULL], SETS))
    + refused("alike", -3, itertools.product((1, 127), SETS, [FULL]))
    + [("alike", (128, EMPTY, FULL), [0]), ("alike", (128, FULL, EMPTY), [0]), ("alike", (128, FULL, FULL), [2])]
)

CLASSES = (
    refused("classes", -2, itertools.product((0, 65, 128, GREATEST), (0, 1, 64, 65, 128, GREATEST)))
    + refused("classes", -2, [(1, 2), (1, GREATEST), (10, 11), (10, GREATEST), (64, 65), (64, GREATEST)])
    + [("classes", (n, k), [0, 1]) for n in (1, 10) for k in (0, 1, n)]
)

ENDS_OF_ALL = GAPS + FORM + RUB + EVEN + SPREAD + ALIKE + CLASSES

# One list of places stands in several rows, as it may be handed to several calls.
CHORD = [0, 4, 7]
ORDINARY = [
    ("gaps", (12, CHORD), [3, 3, 0, 0, 1, 1, 1, 0, 1, 1, 1, 0, 0]),
    ("form", (12, 1, CHORD), [1, 0, 3, 7]),
    ("rub", (12, CHORD, [0, 9, 6, 3, 2, 1]), [0, 6]),
    ("even", (12, 7, 5), [0, 0, 2, 4, 5, 7, 9, 11]),
    ("spread", (12, CHORD), [0]),
    ("alike", (12, CHORD, [0, 3, 7]), [2]),
    ("classes", (10, 5), [0, 26]),
]


def fresh_desk():
    """The module as it is before any call."""
    spec = importlib.util.spec_from_file_location("fresh_desk", desk.__file__)
    module = importlib.util.module_from_spec(spec)
    spec.loader.exec_module(module)
    return module


def called(module, name, arguments):
    return getattr(module, name)(*arguments)


class LeastAndGreatest(unittest.TestCase):
    def test_every_call_is_there(self):
        names = {"gaps", "form", "rub", "even", "spread", "alike", "classes"}
        self.assertEqual({name for name, arguments, answer in ENDS_OF_ALL}, names)
        self.assertEqual({name for name, arguments, answer in ORDINARY}, names)

    def test_answers(self):
        for name, arguments, answer in ENDS_OF_ALL + ORDINARY:
            found = called(desk, name, arguments)
            self.assertEqual(found, answer, (name, arguments))
            self.assertIs(type(found), list, (name, arguments))
            self.assertEqual({type(number) for number in found}, {int}, (name, arguments))

    def test_what_is_handed_in_is_as_it_was(self):
        for name, arguments, answer in ENDS_OF_ALL + ORDINARY:
            kept = copy.deepcopy(arguments)
            called(desk, name, arguments)
            self.assertEqual(arguments, kept, name)


class InAnyOrder(unittest.TestCase):
    def test_each_by_itself(self):
        for name, arguments, answer in ENDS_OF_ALL + ORDINARY:
            self.assertEqual(called(fresh_desk(), name, arguments), answer, (name, arguments))

    def test_the_seven_calls_in_every_order(self):
        module = fresh_desk()
        for order in itertools.permutations(ORDINARY):
            for name, arguments, answer in order:
                self.assertEqual(called(module, name, arguments), answer, (name, arguments))

    def test_each_call_behind_each_other_one(self):
        module = fresh_desk()
        for pair in itertools.product(ENDS_OF_ALL[::3] + ORDINARY, ENDS_OF_ALL[1::5] + ORDINARY):
            for name, arguments, answer in pair:
                self.assertEqual(called(module, name, arguments), answer, pair)

    def test_what_was_handed_in_is_as_it_was_after_all(self):
        rows = copy.deepcopy(ENDS_OF_ALL + ORDINARY)
        for name, arguments, answer in rows + rows[::-1] + rows[::2] + rows[1::2]:
            self.assertEqual(called(desk, name, arguments), answer, (name, arguments))
        self.assertEqual(rows, ENDS_OF_ALL + ORDINARY)
        self.assertEqual((EMPTY, FULL, CHORD), ([], list(range(128)), [0, 4, 7]))


if __name__ == "__main__":
    unittest.main()
