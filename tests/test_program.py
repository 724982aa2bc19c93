"""The program's form: its interface, and the rules of its language that a walk through its files can see."""

import ast
import builtins
import inspect
import pathlib
import re
import unittest

from paintsheets import sheets

PACKAGE = pathlib.Path(__file__).resolve().parent.parent / "paintsheets"
FILES = sorted(p for p in PACKAGE.rglob("*") if p.is_file() and "__pycache__" not in p.parts)

INTERFACE = {
    "judge": ["b"],
    "size": ["b"],
    "open_of": ["b"],
    "keep": ["w", "h", "a"],
    "over": ["w", "h", "up", "low"],
    "move": ["w", "h", "dx", "dy", "a"],
    "repaint": ["w", "h", "a", "table"],
    "count": ["w", "h", "p", "a"],
    "box": ["w", "h", "a"],
    "differ": ["w", "h", "a", "b"],
    "expose": ["w", "h", "e", "film", "a", "model"],
    "develop": ["w", "h", "film"],
}
STATEMENTS = (
    ast.FunctionDef, ast.ClassDef, ast.Assign, ast.AugAssign, ast.If, ast.While, ast.For, ast.Return, ast.Break,
    ast.Continue, ast.Pass, ast.Raise, ast.Try, ast.Expr,
)
OWN_NAMES = set(
    "len range enumerate zip min max sum abs sorted reversed int str bool list tuple dict set frozenset isinstance"
    " ord repr any all divmod Exception ValueError TypeError KeyError IndexError LookupError ZeroDivisionError"
    " ArithmeticError OverflowError RuntimeError NotImplementedError AttributeError StopIteration".split()
)
METHODS = set(
    "append clear copy count endswith extend find get index insert isalnum isalpha isdigit islower isspace isupper"
    " items join keys ljust lower lstrip partition pop remove replace reverse rfind rjust rpartition rsplit rstrip"
    " setdefault split splitlines startswith strip update upper values zfill bit_length".split()
)
BANNED_WORDS = re.compile(
    r"\b(type|typing|typing_extensions|enum|Enum|IntEnum|StrEnum|Flag|IntFlag|Generic|Protocol|ABC|ABCMeta"
    r"|namedtuple|NamedTuple|TypedDict|TYPE_CHECKING|abstractmethod)\b|dataclass|overload|contextmanager"
)


def trees():
    return [(p, ast.parse(p.read_text(encoding="utf-8"))) for p in FILES]


def nodes(*kinds):
    return [(p, n) for p, tree in trees() for n in ast.walk(tree) if isinstance(n, kinds)]


class Interface(unittest.TestCase):
    def test_names_and_arguments(self):
        for name, parameters in INTERFACE.items():
            function = vars(sheets)[name]
            self.assertTrue(inspect.isfunction(function), name)
            self.assertEqual(function.__module__, "paintsheets.sheets")
            self.assertEqual(list(inspect.signature(function).parameters), parameters)
            for parameter in inspect.signature(function).parameters.values():
                self.assertIs(parameter.default, inspect.Parameter.empty)


class Files(unittest.TestCase):
    def test_names(self):
        self.assertIn(PACKAGE / "__init__.py", FILES)
        self.assertIn(PACKAGE / "sheets.py", FILES)
        for path in FILES:
            self.assertRegex(path.name, r"^(__init__|[a-z][a-z0-9_]*)\.py$")

    def test_signs_and_sizes(self):
        for path in FILES:
            text = path.read_bytes().decode("ascii")
            self.assertRegex(text, r"\A[ -~\n]*\Z")
            self.assertLessEqual(text.count("\n"), 399, path)
            for line in text.split("\n"):
                self.assertLessEqual(len(line), 120, line)

    def test_banned_words(self):
        for path in FILES:
            self.assertIsNone(BANNED_WORDS.search(path.read_text(encoding="ascii")), path)


class Language(unittest.TestCase):
    def test_functions_are_short_and_plain(self):
        for path, node in nodes(ast.FunctionDef):
            self.assertLessEqual(node.end_lineno - node.lineno + 1, 40, node.name)
            self.assertEqual(node.decorator_list, [])
            self.assertIsNone(node.args.vararg or node.args.kwarg)
            self.assertEqual(node.args.kwonlyargs + node.args.posonlyargs, [])

    def test_statements(self):
        for path, node in nodes(ast.stmt):
            self.assertIsInstance(node, STATEMENTS)
            if isinstance(node, ast.Assign):
                self.assertEqual(len(node.targets), 1)
            if isinstance(node, (ast.For, ast.While)):
                self.assertEqual(node.orelse, [])

    def test_nothing_is_imported(self):
        self.assertEqual(nodes(ast.Import, ast.ImportFrom), [])

    def test_top_of_files(self):
        for path, tree in trees():
            bound = []
            for node in tree.body:
                if isinstance(node, ast.FunctionDef):
                    bound.append(node.name)
                elif isinstance(node, ast.Assign):
                    ast.literal_eval(node.value)
                    bound.append(node.targets[0].id)
                else:
                    self.assertIsInstance(ast.literal_eval(node.value), str)
            self.assertEqual(len(bound), len(set(bound)), path)

    def test_values(self):
        outside = (
            ast.JoinedStr, ast.GeneratorExp, ast.SetComp, ast.DictComp, ast.NamedExpr, ast.Starred, ast.Div,
            ast.Await, ast.Yield, ast.YieldFrom,
        )
        self.assertEqual(nodes(*outside), [])
        for path, node in nodes(ast.Constant):
            self.assertIn(type(node.value), (int, str, bool, type(None)))

    def test_names(self):
        for path, node in nodes(ast.Name):
            self.assertRegex(node.id, r"^[A-Za-z][A-Za-z0-9_]*$")
            if node.id in vars(builtins):
                self.assertIn(node.id, OWN_NAMES)
                self.assertIsInstance(node.ctx, ast.Load)
        for path, node in nodes(ast.FunctionDef):
            self.assertNotIn(node.name, vars(builtins))
        for path, node in nodes(ast.arg):
            self.assertNotIn(node.arg, vars(builtins))
            self.assertRegex(node.arg, r"^[A-Za-z][A-Za-z0-9_]*$")

    def test_methods(self):
        for path, node in nodes(ast.Attribute):
            self.assertIn(node.attr, METHODS)
