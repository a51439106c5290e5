"""The interface: names, arguments and kinds; nothing handed in is changed; nothing kept, printed, read or imported."""

import ast
import builtins
import contextlib
import copy
import inspect
import io
import pathlib
import unittest
from unittest import mock

import pointdigits.desk
from pointdigits.desk import back, digits

PACKAGE = pathlib.Path(pointdigits.desk.__file__).parent

# Each call: the function, and then what is handed in.
CALLS = (
    (digits, 10, 1, 7, 1, 12),
    (digits, 2, 5, 8, 1, 5),
    (back, 10, 1, 1, [1], [6]),
    (digits, 37, 1, 7, 1, 12),
    (digits, 36, 1000000000, 999999937, 18446744073709551615, 50),
    (back, 10, 0, 1, [], [3]),
    (back, 10, 0, 6, [], []),
    (digits, 10, 1, 7, 0, 12),
    (back, 36, 5, 5, [35, 0, 1, 34, 35], [0, 35, 2, 1, 0]),
    (digits, 10, 1, 7, 3, 0),
    (back, 2, 3, 2, [1, 2, 0], [0, 1]),
    (back, 2, 2, 3, [1, 0], [0, 1, 255]),
    (digits, 10, 1, 0, 1, 12),
    (back, 10, 2, 3, [0, 0], [0, 0, 0]),
    (back, 10, 2, 3, [9, 9], [9, 9, 9]),
    (back, 1, 1, 1, [0], [0]),
    (digits, 16, 255, 16, 1, 3),
)


def answer_of(call):
    return call[0](*copy.deepcopy(call[1:]))


class UnchangedList(list):
    """A list that fails as soon as somebody changes it, be it for a while."""

    def refuse(self, *values, **named):
        raise RuntimeError("what is handed in is changed")

    append = clear = extend = insert = pop = remove = reverse = sort = refuse
    __setitem__ = __delitem__ = __iadd__ = __imul__ = refuse


class NamesAndKinds(unittest.TestCase):
    def test_the_arguments_and_their_order(self):
        self.assertEqual(list(inspect.signature(digits).parameters), ["q", "a", "b", "i", "n"])
        self.assertEqual(list(inspect.signature(back).parameters), ["q", "m", "n", "l", "r"])

    def test_the_arguments_by_name(self):
        self.assertEqual(digits(n=6, i=1, b=7, a=1, q=10), [6, 1, 4, 2, 8, 5, 7])
        self.assertEqual(back(r=[6], l=[1], n=1, m=1, q=10), [0, 1, 6])

    def test_an_answer_is_a_list_of_whole_numbers(self):
        for call in CALLS:
            answer = answer_of(call)
            self.assertIs(type(answer), list, call)
            for number in answer:
                self.assertIs(type(number), int, call)


class NothingHandedInIsChanged(unittest.TestCase):
    def test_the_rows_are_after_the_call_as_before(self):
        for call in CALLS:
            if call[0] == back:
                q, m, n, l, r = copy.deepcopy(call[1:])
                back(q, m, n, l, r)
                self.assertEqual((l, r), call[4:], call)

    def test_the_rows_are_not_changed_for_a_while(self):
        for call in CALLS:
            if call[0] == back:
                q, m, n, l, r = call[1:]
                self.assertEqual(back(q, m, n, UnchangedList(l), UnchangedList(r)), answer_of(call), call)

    def test_one_row_handed_in_twice(self):
        row = [1, 2]
        self.assertEqual(back(10, 2, 2, row, row), [0, 4, 33])
        self.assertEqual(row, [1, 2])


class NothingKept(unittest.TestCase):
    def test_the_same_call_twice(self):
        for call in CALLS:
            self.assertEqual(answer_of(call), answer_of(call), call)

    def test_the_same_lists_twice(self):
        l = [0, 1]
        r = [1, 0, 8]
        self.assertEqual(back(10, 2, 3, l, r), [0, 41, 3700])
        self.assertEqual(back(10, 2, 3, l, r), [0, 41, 3700])
        r[2] = 0
        self.assertEqual(back(10, 2, 3, l, r), [0, 1099, 99900])

    def test_calls_in_another_order(self):
        forward = [answer_of(call) for call in CALLS]
        backward = [answer_of(call) for call in reversed(CALLS)]
        self.assertEqual(forward, backward[::-1])

    def test_a_call_between_two_others(self):
        for call in CALLS:
            alone = answer_of(call)
            for other in CALLS:
                answer_of(other)
                self.assertEqual(answer_of(call), alone, (other, call))

    def test_a_changed_answer_changes_no_later_one(self):
        for call in CALLS:
            first = answer_of(call)
            wanted = list(first)
            first.append(99)
            first[0] = 99
            self.assertEqual(answer_of(call), wanted, call)


class NothingElseDone(unittest.TestCase):
    def test_nothing_is_printed(self):
        out = io.StringIO()
        err = io.StringIO()
        with contextlib.redirect_stdout(out), contextlib.redirect_stderr(err):
            for call in CALLS:
                answer_of(call)
        self.assertEqual(out.getvalue() + err.getvalue(), "")

    def test_nothing_is_read_or_imported_in_a_call(self):
        refuse = mock.Mock(side_effect=RuntimeError("not to be called"))
        for name in ("open", "input", "__import__"):
            with mock.patch.object(builtins, name, refuse):
                answers = [call[0](*call[1:]) for call in CALLS]
            self.assertEqual(len(answers), len(CALLS))
        refuse.assert_not_called()

    def test_only_the_package_itself_is_imported(self):
        for path in sorted(PACKAGE.rglob("*.py")):
            for node in ast.walk(ast.parse(path.read_text(encoding="utf-8"))):
                self.assertNotIsInstance(node, ast.Import, path)
                if isinstance(node, ast.ImportFrom):
                    self.assertEqual(node.level, 0, path)
                    self.assertEqual(node.module.split(".")[0], "pointdigits", path)


if __name__ == "__main__":
    unittest.main()
