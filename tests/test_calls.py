"""What the interface says of every call, whatever it answers."""

import ast
import contextlib
import io
import pathlib
import unittest

import circlenotes
from circlenotes.desk import alike, classes, even, form, gaps, rub, spread

PACKAGE = pathlib.Path(circlenotes.__file__).parent

SETS = (
    [],
    [0],
    [11],
    [0, 4, 7],
    [2, 5, 8, 11],
    [0, 1, 4, 6],
    [0, 1, 3, 7],
    [1, 3, 4, 9, 10],
    list(range(12)),
    [0, 12],
    [127],
)

WEIGHTS = ([], [5], [9, -1, 2, -3, 4], list(range(-64, 64)), [-2147483648, 2147483647] * 64)

# Each row: a function with a set behind its numbers, and the numbers.
SET_CALLS = (
    (gaps, (12,)),
    (gaps, (128,)),
    (gaps, (0,)),
    (form, (12, 0)),
    (form, (12, 1)),
    (form, (128, 1)),
    (form, (12, 2)),
    (form, (129, 0)),
    (spread, (12,)),
    (spread, (128,)),
    (spread, (0,)),
)

EVEN_NUMBERS = ((12, 7, 5), (12, 1, 11), (1, 1, 0), (128, 128, 127), (0, 1, 0), (12, 0, 0), (12, 13, 0), (12, 7, 12))

CLASSES_NUMBERS = ((10, 5), (10, 0), (1, 0), (1, 1), (9, 9), (0, 0), (10, 11), (64, 65), (65, 5), (65, 65))

# Each row: a function and its arguments.
CASES = (
    [(function, numbers + (places,)) for function, numbers in SET_CALLS for places in SETS]
    + [(rub, (n, places, weights)) for n in (12, 128, 0) for places in SETS for weights in WEIGHTS]
    + [(even, numbers) for numbers in EVEN_NUMBERS]
    + [(alike, (n, places, others)) for n in (12, 128, 0) for places in SETS for others in SETS]
    + [(classes, numbers) for numbers in CLASSES_NUMBERS]
)


def refuse(self, *args, **kwargs):
    raise AssertionError("what is handed in was changed")


class Unchangeable(list):
    append = extend = insert = remove = pop = clear = sort = reverse = refuse
    __setitem__ = __delitem__ = __iadd__ = __imul__ = refuse


def handed_in(arguments, as_list=list):
    return [as_list(value) if isinstance(value, list) else value for value in arguments]


class EveryCall(unittest.TestCase):
    def test_what_is_handed_in_is_as_it_was(self):
        for function, arguments in CASES:
            handed = handed_in(arguments)
            function(*handed)
            self.assertEqual(handed, list(arguments), function)

    def test_what_is_handed_in_is_not_changed_for_a_while_either(self):
        for function, arguments in CASES:
            answer = function(*handed_in(arguments, Unchangeable))
            self.assertEqual(answer, function(*handed_in(arguments)), (function, arguments))

    def test_answer_is_a_list_of_whole_numbers(self):
        for function, arguments in CASES:
            answer = function(*handed_in(arguments))
            self.assertIs(type(answer), list, (function, arguments))
            self.assertEqual({type(number) for number in answer}, {int}, (function, arguments))

    def test_spread_and_alike_answer_one_number(self):
        answers = {(function, tuple(function(*handed_in(arguments)))) for function, arguments in CASES}
        found = {(function, answer) for function, answer in answers if function in (spread, alike)}
        expected = {(spread, (number,)) for number in (-3, -2, 0, 1)}
        expected |= {(alike, (number,)) for number in (-3, -2, 0, 1, 2)}
        self.assertEqual(found, expected)

    def test_rub_and_classes_answer_0_and_one_number(self):
        answers = [function(*handed_in(arguments)) for function, arguments in CASES if function in (rub, classes)]
        self.assertEqual({(answer[0], len(answer)) for answer in answers}, {(0, 2), (-2, 1), (-3, 1)})

    def test_a_refusal_is_its_number_alone(self):
        answers = [(function, function(*handed_in(arguments))) for function, arguments in CASES]
        refusals = {(function, tuple(answer)) for function, answer in answers if answer[0] < 0}
        expected = {(function, (-2,)) for function in (gaps, form, rub, even, spread, alike, classes)}
        expected |= {(function, (-3,)) for function in (gaps, form, rub, spread, alike)}
        self.assertEqual(refusals, expected)

    def test_second_call_answers_the_same(self):
        for function, arguments in CASES:
            handed = handed_in(arguments)
            first = function(*handed)
            kept = list(first)
            # A changed answer must reach neither what was handed in nor a later answer.
            first.append(99)
            first[0] = 77
            self.assertEqual(handed, list(arguments), function)
            self.assertEqual(function(*handed), kept, (function, arguments))

    def test_calls_between_change_nothing(self):
        first = [function(*handed_in(arguments)) for function, arguments in CASES]
        second = [function(*handed_in(arguments)) for function, arguments in reversed(CASES)]
        self.assertEqual(first, second[::-1])

    def test_arguments_bear_the_names_told(self):
        self.assertEqual(gaps(n=3, a=[0]), [1, 1, 0, 0])
        self.assertEqual(form(n=3, mirror=0, a=[1]), [1, 0])
        self.assertEqual(rub(n=3, a=[0, 1], w=[0, 5]), [0, 5])
        self.assertEqual(even(n=3, k=2, m=1), [0, 0, 2])
        self.assertEqual(spread(n=4, a=[0, 2]), [1])
        self.assertEqual(alike(n=3, a=[0, 1], b=[1, 2]), [2])
        self.assertEqual(classes(n=4, k=2), [0, 2])

    def test_nothing_is_printed(self):
        out, err = io.StringIO(), io.StringIO()
        with contextlib.redirect_stdout(out), contextlib.redirect_stderr(err):
            for function, arguments in CASES:
                function(*handed_in(arguments))
        self.assertEqual(out.getvalue() + err.getvalue(), "")


class PackageFiles(unittest.TestCase):
    def texts(self):
        return [(path.name, path.read_text(encoding="utf-8")) for path in sorted(PACKAGE.glob("**/*.py"))]

    def test_nothing_from_outside_is_imported(self):
        for name, text in self.texts():
            for node in ast.walk(ast.parse(text)):
                self.assertNotIsInstance(node, ast.Import, name)
                if isinstance(node, ast.ImportFrom):
                    self.assertEqual((node.module or "").split(".")[0], "circlenotes", name)

    def test_sizes_and_signs(self):
        for name, text in self.texts():
            lines = text.split("\n")
            self.assertLessEqual(len(lines), 400, name)
            self.assertLessEqual(max(len(line) for line in lines), 120, name)
            self.assertTrue(all(" " <= sign <= "~" or sign == "\n" for sign in text), name)
            for node in ast.walk(ast.parse(text)):
                if isinstance(node, ast.FunctionDef):
                    self.assertLessEqual(node.end_lineno - node.lineno + 1, 40, node.name)


if __name__ == "__main__":
    unittest.main()
