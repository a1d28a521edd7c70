"""What the interface says of every call, whatever it answers."""

import ast
import contextlib
import io
import pathlib
import unittest

import circlenotes
from circlenotes.desk import form, gaps

PACKAGE = pathlib.Path(circlenotes.__file__).parent

SETS = ([], [0], [11], [0, 4, 7], [2, 5, 8, 11], [1, 3, 4, 9, 10], list(range(12)), [0, 12], [127])

# Each row: the function, and its arguments ahead of the set.
CALLS = (
    (gaps, (12,)),
    (gaps, (128,)),
    (gaps, (0,)),
    (form, (12, 0)),
    (form, (12, 1)),
    (form, (128, 1)),
    (form, (12, 2)),
    (form, (129, 0)),
)

CASES = [(function, numbers, places) for function, numbers in CALLS for places in SETS]


def refuse(self, *args, **kwargs):
    raise AssertionError("what is handed in was changed")


class Unchangeable(list):
    append = extend = insert = remove = pop = clear = sort = reverse = refuse
    __setitem__ = __delitem__ = __iadd__ = __imul__ = refuse


class EveryCall(unittest.TestCase):
    def test_what_is_handed_in_is_as_it_was(self):
        for function, numbers, places in CASES:
            handed = list(places)
            function(*numbers, handed)
            self.assertEqual(handed, places, (function, numbers))

    def test_what_is_handed_in_is_not_changed_for_a_while_either(self):
        for function, numbers, places in CASES:
            answer = function(*numbers, Unchangeable(places))
            self.assertEqual(answer, function(*numbers, list(places)), (function, numbers, places))

    def test_answer_is_a_list_of_whole_numbers(self):
        for function, numbers, places in CASES:
            answer = function(*numbers, list(places))
            self.assertIs(type(answer), list, (function, numbers, places))
            self.assertEqual({type(number) for number in answer}, {int}, (function, numbers, places))

    def test_a_refusal_is_its_number_alone(self):
        refusals = []
        for function, numbers, places in CASES:
            answer = function(*numbers, list(places))
            if answer[0] < 0:
                refusals.append(answer)
        self.assertEqual(sorted(set(map(tuple, refusals))), [(-3,), (-2,)])

    def test_second_call_answers_the_same(self):
        for function, numbers, places in CASES:
            handed = list(places)
            first = function(*numbers, handed)
            kept = list(first)
            # A changed answer must reach neither the set nor a later answer.
            first.append(99)
            first[0] = 77
            self.assertEqual(handed, places, (function, numbers))
            self.assertEqual(function(*numbers, handed), kept, (function, numbers, places))

    def test_calls_between_change_nothing(self):
        first = [function(*numbers, list(places)) for function, numbers, places in CASES]
        second = [function(*numbers, list(places)) for function, numbers, places in reversed(CASES)]
        self.assertEqual(first, second[::-1])

    def test_arguments_bear_the_names_told(self):
        self.assertEqual(gaps(n=3, a=[0]), [1, 1, 0, 0])
        self.assertEqual(form(n=3, mirror=0, a=[1]), [1, 0])

    def test_nothing_is_printed(self):
        out, err = io.StringIO(), io.StringIO()
        with contextlib.redirect_stdout(out), contextlib.redirect_stderr(err):
            for function, numbers, places in CASES:
                function(*numbers, list(places))
        self.assertEqual(out.getvalue() + err.getvalue(), "")


class PackageFiles(unittest.TestCase):
    def texts(self):
        return [(path.name, path.read_text(encoding="utf-8")) for path in sorted(PACKAGE.glob("**/*.py"))]

    def test_nothing_from_outside_is_imported(self):
        for name, text in self.texts():
            for node in ast.walk(ast.parse(text)):
                self.assertNotIsInstance(node, ast.Import, name)
                if isinstance(node, ast.ImportFrom):
                    self.assertEqual((node.module or "").split(".")[0], "circlenotes", name)

    def test_sizes_and_signs(self):
        for name, text in self.texts():
            lines = text.split("\n")
            self.assertLessEqual(len(lines), 400, name)
            self.assertLessEqual(max(len(line) for line in lines), 120, name)
            self.assertTrue(all(" " <= sign <= "~" or sign == "\n" for sign in text), name)
            for node in ast.walk(ast.parse(text)):
                if isinstance(node, ast.FunctionDef):
                    self.assertLessEqual(node.end_lineno - node.lineno + 1, 40, node.name)


if __name__ == "__main__":
    unittest.main()
