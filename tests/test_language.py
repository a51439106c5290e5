"""The rules of the language that a walk over the package's files can see."""

import ast
import builtins
import pathlib
import re
import unittest

import pointdigits

PACKAGE = pathlib.Path(pointdigits.__file__).parent

ALLOWED_NODES = (
    ast.Module, ast.ImportFrom, ast.alias, ast.FunctionDef, ast.ClassDef, ast.arguments, ast.arg, ast.Lambda,
    ast.Assign, ast.AugAssign, ast.If, ast.While, ast.For, ast.Return, ast.Break, ast.Continue, ast.Pass, ast.Raise,
    ast.Try, ast.ExceptHandler, ast.Expr, ast.Constant, ast.List, ast.Tuple, ast.Dict, ast.Set, ast.BinOp,
    ast.UnaryOp, ast.BoolOp, ast.Compare, ast.IfExp, ast.Call, ast.keyword, ast.Attribute, ast.Subscript, ast.Slice,
    ast.ListComp, ast.comprehension, ast.JoinedStr, ast.FormattedValue, ast.Name, ast.operator, ast.unaryop,
    ast.boolop, ast.cmpop, ast.expr_context,
)
FORBIDDEN_NODES = (ast.Div, ast.MatMult)

ALLOWED_BUILTINS = set("""
    len range enumerate zip min max sum abs sorted reversed int str bool list tuple dict set frozenset isinstance ord
    repr any all divmod Exception ValueError TypeError KeyError IndexError LookupError ZeroDivisionError
    ArithmeticError OverflowError RuntimeError NotImplementedError AttributeError StopIteration
""".split())

FORBIDDEN_WORDS = set("""
    type typing typing_extensions enum Enum IntEnum StrEnum Flag IntFlag Generic Protocol ABC ABCMeta namedtuple
    NamedTuple TypedDict TYPE_CHECKING abstractmethod
""".split())

PLAIN_NAME = re.compile(r"[A-Za-z][A-Za-z0-9_]*\Z")


def package_files():
    return [path for path in sorted(PACKAGE.rglob("*")) if "__pycache__" not in path.parts]


def bound_names(tree):
    for node in ast.walk(tree):
        if isinstance(node, ast.Name) and isinstance(node.ctx, ast.Store):
            yield node.id
        elif isinstance(node, ast.arg):
            yield node.arg
        elif isinstance(node, (ast.FunctionDef, ast.ClassDef)):
            yield node.name


class Files(unittest.TestCase):
    def test_plain_lower_case_python_files_alone(self):
        for path in package_files():
            if path.is_file():
                self.assertRegex(path.name, r"\A[a-z0-9_]+\.py\Z", path)
            else:
                self.assertTrue((path / "__init__.py").is_file(), path)

    def test_signs_and_size(self):
        for path in package_files():
            rows = path.read_bytes().decode("ascii").split("\n")
            self.assertLessEqual(len(rows), 401, path)
            for row in rows:
                self.assertLessEqual(len(row), 120, path)
                self.assertTrue(all(" " <= sign <= "~" for sign in row), (path, row))

    def test_words_that_stand_nowhere(self):
        for path in package_files():
            text = path.read_text(encoding="ascii")
            self.assertEqual(set(re.findall(r"\w+", text)) & FORBIDDEN_WORDS, set(), path)
            self.assertIsNone(re.search("dataclass|overload|contextmanager", text), path)


class Code(unittest.TestCase):
    def each_tree(self):
        for path in package_files():
            yield path, ast.parse(path.read_text(encoding="ascii"))

    def test_statements_and_expressions(self):
        for path, tree in self.each_tree():
            for node in ast.walk(tree):
                self.assertIsInstance(node, ALLOWED_NODES, path)
                self.assertNotIsInstance(node, FORBIDDEN_NODES, path)
                if isinstance(node, ast.Constant):
                    self.assertIn(type(node.value), (int, str, bool, type(None)), path)
                if isinstance(node, ast.BinOp) and isinstance(node.op, ast.Pow):
                    self.assertIsInstance(node.right, ast.Constant, path)
                if isinstance(node, ast.Assign):
                    self.assertEqual(len(node.targets), 1, path)
                if isinstance(node, (ast.For, ast.While)):
                    self.assertEqual(node.orelse, [], path)

    def test_functions_are_small_and_plain(self):
        for path, tree in self.each_tree():
            for node in ast.walk(tree):
                if isinstance(node, ast.FunctionDef):
                    self.assertLessEqual(node.end_lineno - node.lineno + 1, 40, node.name)
                    self.assertEqual(node.decorator_list, [], node.name)
                    self.assertIsNone(node.args.vararg, node.name)
                    self.assertIsNone(node.args.kwarg, node.name)
                    self.assertEqual(node.args.kwonlyargs, [], node.name)

    def test_names(self):
        for path, tree in self.each_tree():
            for name in bound_names(tree):
                if not name.startswith("__"):
                    self.assertRegex(name, PLAIN_NAME, path)
                self.assertFalse(hasattr(builtins, name), (path, name))

    def test_pythons_own_names(self):
        for path, tree in self.each_tree():
            for node in ast.walk(tree):
                if isinstance(node, ast.Name) and hasattr(builtins, node.id):
                    self.assertIn(node.id, ALLOWED_BUILTINS, path)

    def test_each_top_name_once(self):
        for path, tree in self.each_tree():
            names = []
            for node in tree.body:
                if isinstance(node, ast.Assign):
                    names.append(node.targets[0].id)
                elif isinstance(node, (ast.FunctionDef, ast.ClassDef)):
                    names.append(node.name)
                elif isinstance(node, ast.ImportFrom):
                    names.extend(alias.asname or alias.name for alias in node.names)
            self.assertEqual(len(names), len(set(names)), path)


if __name__ == "__main__":
    unittest.main()
