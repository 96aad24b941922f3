"""The package's own files, held against those rules of its language that a tree or a row of text shows."""

import ast
import builtins
import re
import unittest
from pathlib import Path

PACKAGE = Path(__file__).resolve().parent.parent / "waiting"

NODES = (
    ast.Module, ast.FunctionDef, ast.arguments, ast.arg, ast.Return, ast.Assign, ast.AugAssign, ast.For, ast.While,
    ast.If, ast.Break, ast.Continue, ast.Pass, ast.Expr, ast.Name, ast.Load, ast.Store, ast.Constant, ast.BinOp,
    ast.UnaryOp, ast.BoolOp, ast.Compare, ast.IfExp, ast.Call, ast.Attribute, ast.Subscript, ast.Slice, ast.List,
    ast.Tuple, ast.Dict, ast.ListComp, ast.comprehension, ast.Lambda, ast.keyword, ast.operator, ast.unaryop,
    ast.boolop, ast.cmpop,
)
BUILTINS = (
    "len range enumerate zip min max sum abs sorted reversed int str bool list tuple dict set frozenset isinstance "
    "ord repr any all divmod"
).split()
METHODS = (
    "append clear copy count endswith extend find get index insert isalnum isalpha isdigit islower isspace isupper "
    "items join keys ljust lower lstrip partition pop remove replace reverse rfind rjust rpartition rsplit rstrip "
    "setdefault split splitlines startswith strip update upper values zfill bit_length"
).split()
WORDS = (
    "type typing typing_extensions enum Enum IntEnum StrEnum Flag IntFlag Generic Protocol ABC ABCMeta namedtuple "
    "NamedTuple TypedDict TYPE_CHECKING abstractmethod"
).split()


def package_files():
    return sorted(path for path in PACKAGE.rglob("*") if path.is_file() and "__pycache__" not in path.parts)


class Form(unittest.TestCase):
    def walk(self):
        for path in package_files():
            for node in ast.walk(ast.parse(path.read_text(encoding="utf-8"))):
                yield path.name, node

    def test_the_files(self):
        self.assertEqual([path.name for path in package_files()], ["__init__.py", "lines.py"])

    def test_rows_and_signs(self):
        for path in package_files():
            text = path.read_bytes().decode("ascii")
            self.assertTrue(all(sign == "\n" or " " <= sign <= "~" for sign in text), path)
            rows = text.splitlines()
            self.assertLessEqual(len(rows), 400, path)
            self.assertLessEqual(max(map(len, rows)), 120, path)

    def test_words_that_stand_nowhere(self):
        for path in package_files():
            text = path.read_text(encoding="ascii")
            self.assertEqual(sorted(set(re.findall(r"\w+", text)) & set(WORDS)), [], path)
            self.assertIsNone(re.search("dataclass|overload|contextmanager", text), path)

    def test_nothing_is_imported(self):
        for name, node in self.walk():
            self.assertNotIsInstance(node, (ast.Import, ast.ImportFrom), name)

    def test_kinds_of_steps(self):
        for name, node in self.walk():
            self.assertIsInstance(node, NODES, f"{name}:{getattr(node, 'lineno', 0)}")
            self.assertNotIsInstance(node, (ast.Div, ast.MatMult), name)
            if isinstance(node, ast.Constant):
                self.assertIn(type(node.value), (int, str, bool, type(None)), name)
            if isinstance(node, (ast.For, ast.While)):
                self.assertEqual(node.orelse, [], name)
            if isinstance(node, ast.Assign):
                self.assertEqual(len(node.targets), 1, name)

    def test_functions(self):
        for name, node in self.walk():
            if isinstance(node, ast.FunctionDef):
                self.assertLessEqual(node.end_lineno - node.lineno + 1, 40, (name, node.name))
                self.assertEqual(node.decorator_list, [], (name, node.name))
                plain = node.args.vararg is None and node.args.kwarg is None
                self.assertTrue(plain and not node.args.kwonlyargs and not node.args.posonlyargs, (name, node.name))

    def test_no_function_calls_itself_in_whatever_many_steps(self):
        # What is as long as its input is gone through by loops: each function calls only those above it.
        for path in package_files():
            top = ast.parse(path.read_text(encoding="ascii")).body
            functions = [node for node in top if isinstance(node, ast.FunctionDef)]
            for place, function in enumerate(functions):
                not_above = [other.name for other in functions[place:]]
                for node in ast.walk(function):
                    if isinstance(node, ast.Name):
                        self.assertNotIn(node.id, not_above, (path.name, function.name))

    def test_names(self):
        own = dir(builtins)
        for name, node in self.walk():
            if isinstance(node, ast.Name) and isinstance(node.ctx, ast.Load) and node.id in own:
                self.assertIn(node.id, BUILTINS, name)
            if isinstance(node, ast.Attribute):
                self.assertIn(node.attr, METHODS, name)
            bound = getattr(node, "name", None) or getattr(node, "arg", None)
            if isinstance(node, ast.Name) and isinstance(node.ctx, ast.Store):
                bound = node.id
            if bound is not None and not isinstance(node, ast.keyword):
                self.assertRegex(bound, r"\A[A-Za-z][A-Za-z0-9_]*\Z", name)
                self.assertNotIn(bound, own, name)

    def test_the_top_binds_each_name_once_to_a_plain_value(self):
        for path in package_files():
            bound = []
            for place, node in enumerate(ast.parse(path.read_text(encoding="ascii")).body):
                if isinstance(node, ast.FunctionDef):
                    bound.append(node.name)
                elif isinstance(node, ast.Assign):
                    ast.literal_eval(node.value)
                    bound.append(node.targets[0].id)
                else:
                    self.assertTrue(place == 0 and isinstance(node, ast.Expr), path)
            self.assertEqual(len(bound), len(set(bound)), path)


if __name__ == "__main__":
    unittest.main()
