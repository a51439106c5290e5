"""The interface: names, arguments and kinds; nothing kept, printed, read or imported."""

import ast
import builtins
import contextlib
import inspect
import io
import pathlib
import unittest
from unittest import mock

import pointdigits.desk
from pointdigits.desk import digits

PACKAGE = pathlib.Path(pointdigits.desk.__file__).parent

CALLS = (
    (10, 1, 7, 1, 12),
    (2, 5, 8, 1, 5),
    (37, 1, 7, 1, 12),
    (36, 1000000000, 999999937, 18446744073709551615, 50),
    (10, 1, 7, 0, 12),
    (10, 1, 7, 3, 0),
    (10, 1, 0, 1, 12),
    (16, 255, 16, 1, 3),
)


class NamesAndKinds(unittest.TestCase):
    def test_the_arguments_and_their_order(self):
        self.assertEqual(list(inspect.signature(digits).parameters), ["q", "a", "b", "i", "n"])

    def test_the_arguments_by_name(self):
        self.assertEqual(digits(n=6, i=1, b=7, a=1, q=10), [6, 1, 4, 2, 8, 5, 7])

    def test_an_answer_is_a_list_of_whole_numbers(self):
        for call in CALLS:
            answer = digits(*call)
            self.assertIs(type(answer), list, call)
            for number in answer:
                self.assertIs(type(number), int, call)


class NothingKept(unittest.TestCase):
    def test_the_same_call_twice(self):
        for call in CALLS:
            self.assertEqual(digits(*call), digits(*call), call)

    def test_calls_in_another_order(self):
        forward = {call: digits(*call) for call in CALLS}
        backward = {call: digits(*call) for call in reversed(CALLS)}
        self.assertEqual(forward, backward)

    def test_a_call_between_two_others(self):
        for call in CALLS:
            alone = digits(*call)
            for other in CALLS:
                digits(*other)
                self.assertEqual(digits(*call), alone, (other, call))

    def test_a_changed_answer_changes_no_later_one(self):
        for call in CALLS:
            first = digits(*call)
            wanted = list(first)
            first.append(99)
            first[0] = 99
            self.assertEqual(digits(*call), wanted, call)


class NothingElseDone(unittest.TestCase):
    def test_nothing_is_printed(self):
        out = io.StringIO()
        err = io.StringIO()
        with contextlib.redirect_stdout(out), contextlib.redirect_stderr(err):
            for call in CALLS:
                digits(*call)
        self.assertEqual(out.getvalue() + err.getvalue(), "")

    def test_nothing_is_read_or_imported_in_a_call(self):
        refuse = mock.Mock(side_effect=RuntimeError("not to be called"))
        for name in ("open", "input", "__import__"):
            with mock.patch.object(builtins, name, refuse):
                answers = [digits(*call) for call in CALLS]
            self.assertEqual(len(answers), len(CALLS))
        refuse.assert_not_called()

    def test_only_the_package_itself_is_imported(self):
        for path in sorted(PACKAGE.rglob("*.py")):
            for node in ast.walk(ast.parse(path.read_text(encoding="utf-8"))):
                self.assertNotIsInstance(node, ast.Import, path)
                if isinstance(node, ast.ImportFrom):
                    self.assertEqual(node.level, 0, path)
                    self.assertEqual(node.module.split(".")[0], "pointdigits", path)


if __name__ == "__main__":
    unittest.main()
