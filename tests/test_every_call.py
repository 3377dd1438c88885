"""What the interface says of every function alike."""

import ast
import builtins
import contextlib
import copy
import importlib.util
import inspect
import io
import pathlib
import sys
import unittest
import unittest.mock

import handedover
from handedover import rows
from support import Unchanging

NAMES = [
    "fold", "back", "scan", "map_row", "keep", "split", "pairs", "once", "merge", "unfold", "times", "both", "search",
]

# For each function: what it is handed by name, and other values to call it with in between.
CALLS = {
    "fold": (
        {"f": 7, "c": 5, "begin": 10, "a": [3, 1, 2], "answers": [30, 20]},
        {"f": 1, "c": 0, "begin": -4, "a": [9, 8, 7, 6], "answers": [1, 2, 3, 4, 5]},
    ),
    "back": (
        {"f": 7, "c": 5, "begin": 10, "a": [3, 1, 2], "answers": [30, 20]},
        {"f": 1, "c": 0, "begin": -4, "a": [9, 8, 7, 6], "answers": [1, 2, 3, 4, 5]},
    ),
    "scan": (
        {"f": 7, "c": 5, "begin": 10, "a": [3, 1, 2], "answers": [30, 20]},
        {"f": 1, "c": 0, "begin": -4, "a": [9, 8, 7, 6], "answers": [1, 2, 3, 4, 5]},
    ),
    "map_row": (
        {"g": 7, "c": 5, "a": [3, 1, 2], "answers": [30, 20]},
        {"g": -1, "c": 0, "a": [9, 8, 7, 6], "answers": [1, 2, 3, 4, 5]},
    ),
    "keep": (
        {"p": 7, "c": 5, "a": [3, 1, 2], "answers": [0, 20]},
        {"p": 1, "c": 0, "a": [9, 8, 7, 6], "answers": [1, 0, 3, 4, 5]},
    ),
    "split": (
        {"p": 7, "c": 5, "a": [3, 1, 2], "answers": [0, 20]},
        {"p": 1, "c": 0, "a": [9, 8, 7, 6], "answers": [1, 0, 3, 4, 5]},
    ),
    "pairs": (
        {"f": 7, "c": 5, "a": [3, 1, 2, 4], "answers": [30, 20]},
        {"f": 1, "c": 0, "a": [9, 8, 7, 6], "answers": [1, 2, 3, 4, 5]},
    ),
    "once": (
        {"same": 7, "c": 5, "a": [3, 1, 2, 4], "answers": [0, 20]},
        {"same": 1, "c": 0, "a": [9, 8, 7, 6], "answers": [1, 0, 3, 4, 5]},
    ),
    "merge": (
        {"less": 7, "c": 5, "a": [3, 1, 2], "b": [6, 4], "answers": [0, 20]},
        {"less": 1, "c": 0, "a": [9, 8], "b": [7, 6, 5], "answers": [1, 0, 3, 4, 5]},
    ),
    "unfold": (
        {"x": 10, "g": 7, "p": 6, "c": 5, "most": 4, "answers": [1, 20, 1]},
        {"x": -4, "g": 2, "p": 1, "c": 0, "most": 3, "answers": [1, 2, 3, 4, 5, 6, 7]},
    ),
    "times": (
        {"x": 10, "k": 4, "g": 7, "c": 5, "answers": [30, 20]},
        {"x": -4, "k": 3, "g": 1, "c": 0, "answers": [1, 2, 3, 4, 5]},
    ),
    "both": (
        {"x": 10, "g": 7, "h": 6, "c": 5, "answers": [30]},
        {"x": -4, "g": -1, "h": 1, "c": 0, "answers": [1, 2, 3]},
    ),
    "search": (
        {"lo": -9, "hi": 10, "p": 7, "c": 5, "answers": [1, 0]},
        {"lo": 3, "hi": 6, "p": 1, "c": 0, "answers": [1, 1, 0, 1]},
    ),
}


def call(name, handed, module=rows):
    return getattr(module, name)(**handed)


def rows_as_if_new():
    """The module loaded once more, so that no call of it was made yet."""
    spec = importlib.util.spec_from_file_location("rows_as_if_new", rows.__file__)
    module = importlib.util.module_from_spec(spec)
    spec.loader.exec_module(module)
    return module


def refuse(*args, **kwargs):
    raise AssertionError("something is printed, read or imported")


class Refusing(io.TextIOBase):
    """Stands for standard input, output or error where none of them may be used."""

    read = readline = readlines = write = writelines = fileno = flush = refuse


@contextlib.contextmanager
def nothing_but_values():
    """Within it, whatever prints, reads or imports fails."""
    own_names = {name: refuse for name in ("open", "input", "print", "__import__")}
    streams = {name: Refusing() for name in ("stdin", "stdout", "stderr")}
    with unittest.mock.patch.multiple(sys, **streams), unittest.mock.patch.multiple(builtins, **own_names):
        yield


def lists_of(handed):
    return {key: value for key, value in handed.items() if isinstance(value, list)}


def with_unchanging_lists(handed):
    return handed | {key: Unchanging(value) for key, value in lists_of(handed).items()}


class EveryCall(unittest.TestCase):
    def for_each(self, check):
        for name, (handed, other) in CALLS.items():
            with self.subTest(name):
                check(name, handed, other)

    def test_its_arguments_are_named_and_ordered_as_in_the_document(self):
        def check(name, handed, other):
            parameters = inspect.signature(getattr(rows, name)).parameters
            self.assertEqual(list(parameters), list(handed))
            for parameter in parameters.values():
                self.assertIs(parameter.default, inspect.Parameter.empty)
                self.assertIs(parameter.kind, inspect.Parameter.POSITIONAL_OR_KEYWORD)
            self.assertEqual(call(name, handed), getattr(rows, name)(*handed.values()))

        self.for_each(check)

    def test_what_is_handed_in_is_as_it_was(self):
        def check(name, handed, other):
            for values in (handed, other):
                before = copy.deepcopy(values)
                call(name, values)
                self.assertEqual(values, before)

        self.for_each(check)

    def test_what_is_handed_in_is_not_changed_for_a_while_either(self):
        def check(name, handed, other):
            for values in (handed, other):
                self.assertEqual(call(name, with_unchanging_lists(values)), call(name, values))

        self.for_each(check)

    def test_a_second_call_gives_back_the_same(self):
        def check(name, handed, other):
            for values in (handed, other):
                first = call(name, values)
                self.assertEqual(call(name, values), first)

        self.for_each(check)

    def test_nothing_is_kept_from_calls_in_between(self):
        def check(name, handed, other):
            first = call(name, handed)
            for other_name, both_values in CALLS.items():
                for values in both_values:
                    call(other_name, values)
                    self.assertEqual(call(name, handed), first, other_name)

        self.for_each(check)

    def test_every_call_is_as_if_for_the_first_time(self):
        for name, both_values in CALLS.items():
            for values in both_values:
                call(name, values)

        def check(name, handed, other):
            for values in (handed, other):
                self.assertEqual(call(name, values), call(name, values, rows_as_if_new()))

        self.for_each(check)

    def test_what_is_given_back_is_the_caller_s_own(self):
        def check(name, handed, other):
            for values in (handed, other):
                before = copy.deepcopy(values)
                first = call(name, values)
                kept = list(first)
                first.clear()
                self.assertEqual(values, before)
                self.assertEqual(call(name, values), kept)

        self.for_each(check)

    def test_the_same_list_as_row_and_answers(self):
        def check(name, handed, other):
            row = [3, 0, 2]
            for values in (handed, other):
                shared = values | {key: row for key in lists_of(values)}
                apart = values | {key: list(row) for key in lists_of(values)}
                self.assertEqual(call(name, shared), call(name, apart))

        self.for_each(check)

    def test_a_list_of_whole_numbers_is_given_back(self):
        def check(name, handed, other):
            emptied = [handed | {key: []} for key in lists_of(handed)]
            for values in [handed, other] + emptied:
                result = call(name, values)
                self.assertIs(type(result), list)
                self.assertEqual({type(number) for number in result}, {int})

        self.for_each(check)

    def test_nothing_is_printed_read_or_imported(self):
        def check(name, handed, other):
            expected = [call(name, handed), call(name, other)]
            with nothing_but_values():
                result = [call(name, handed), call(name, other)]
            self.assertEqual(result, expected)

        self.for_each(check)


class Package(unittest.TestCase):
    def test_all_its_functions_are_there_and_in_the_table_of_calls(self):
        self.assertEqual(len(NAMES), 13)
        self.assertEqual(list(CALLS), NAMES)
        for name in NAMES:
            self.assertTrue(inspect.isfunction(getattr(rows, name)), name)

    def test_it_imports_nothing(self):
        files = sorted(pathlib.Path(handedover.__file__).parent.rglob("*.py"))
        self.assertTrue(files)
        for file in files:
            for node in ast.walk(ast.parse(file.read_text(encoding="utf-8"))):
                self.assertNotIsInstance(node, (ast.Import, ast.ImportFrom), file.name)


if __name__ == "__main__":
    unittest.main()
