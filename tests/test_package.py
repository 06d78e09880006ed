"""The package as a whole: its interface, and that it prints, reads and imports nothing."""

import ast
import builtins
import contextlib
import inspect
import io
import re
import unittest
from pathlib import Path

from mapcounts import graphs

FOLDER = Path(graphs.__file__).parent
FILES = sorted(FOLDER.glob("*.py"))

README = FOLDER.parent / "README.md"

# L8's names that the package may call; print only stands in __main__.py, and there is none.
OWN_NAMES = set(
    "len range enumerate zip min max sum abs sorted reversed int str bool list tuple dict set frozenset "
    "isinstance ord repr any all divmod".split()
)
ALLOWED_METHODS = {"append", "extend", "copy", "get", "items", "index", "insert", "pop"}
LEFT_OUT = (
    ast.Import, ast.ImportFrom, ast.With, ast.Delete, ast.Global, ast.Nonlocal, ast.Assert, ast.Yield,
    ast.SetComp, ast.DictComp, ast.GeneratorExp, ast.NamedExpr, ast.Starred, ast.Div, ast.Pow, ast.AnnAssign,
)
# L17's words that stand nowhere.
WORDS_LEFT_OUT = set(
    "type typing typing_extensions enum Enum IntEnum StrEnum Flag IntFlag Generic Protocol ABC ABCMeta namedtuple "
    "NamedTuple TypedDict TYPE_CHECKING abstractmethod register mro elements open input".split()
)


class Interface(unittest.TestCase):
    def test_names_and_arguments(self):
        for name, due in (
            ("differ", ["n", "m", "first", "second"]),
            ("walks", ["n", "k", "first"]),
            ("rounds", ["n", "k", "first"]),
            ("graph", ["k", "a"]),
            ("number", ["n", "first"]),
            ("counts", ["n", "k", "first"]),
            ("onto", ["n", "m", "first", "second"]),
        ):
            self.assertEqual(list(inspect.signature(getattr(graphs, name)).parameters), due)

    def test_the_examples_of_the_readme(self):
        examples = re.findall(r"^    (\w+)\((.*)\) +# (\[.*\])$", README.read_text(), re.MULTILINE)
        self.assertEqual(
            {name for name, handed, due in examples},
            {"differ", "walks", "rounds", "graph", "number", "counts", "onto"},
        )
        for name, handed, due in examples:
            with self.subTest(name=name, handed=handed):
                answer = getattr(graphs, name)(*ast.literal_eval(f"({handed},)"))
                self.assertEqual(answer, ast.literal_eval(due))

    def test_nothing_is_printed_or_read(self):
        out, err = io.StringIO(), io.StringIO()
        with contextlib.redirect_stdout(out), contextlib.redirect_stderr(err):
            graphs.differ(3, 3, [0, 1, 0, 2], [1, 0, 2, 0])
            graphs.differ(0, 0, [], [])
            graphs.walks(2, 12, [0, 0, 0, 1, 1, 0])
            graphs.walks(2, 13, [])
            graphs.rounds(2, 12, [0, 0, 0, 1, 1, 0])
            graphs.rounds(2, 13, [])
            graphs.graph(3, 511)
            graphs.graph(3, 512)
            graphs.number(3, [0, 1, 0, 2])
            graphs.number(6, [])
            graphs.counts(3, 2, [0, 1, 0, 2])
            graphs.counts(3, 3, [])
            graphs.onto(3, 2, [0, 1], [0, 1])
            graphs.onto(0, 6, [], [])
        self.assertEqual((out.getvalue(), err.getvalue()), ("", ""))


class Language(unittest.TestCase):
    def test_files(self):
        self.assertEqual([path.name for path in FILES], ["__init__.py", "graphs.py"])
        for path in FILES:
            rows = path.read_text(encoding="ascii").split("\n")
            self.assertLessEqual(len(rows), 400, path.name)
            for row in rows:
                self.assertLessEqual(len(row), 120, row)
                self.assertTrue(all(" " <= sign <= "~" for sign in row), row)

    def test_nothing_that_the_rules_leave_out(self):
        for path in FILES:
            for node in ast.walk(ast.parse(path.read_text())):
                self.assertNotIsInstance(node, LEFT_OUT, path.name)
                if isinstance(node, ast.FunctionDef):
                    self.assertLessEqual(node.end_lineno - node.lineno + 1, 40, node.name)
                if isinstance(node, ast.ListComp):
                    self.assertEqual(len(node.generators), 1)

    def test_words_and_names(self):
        for path in FILES:
            source = path.read_text()
            self.assertEqual(set(re.findall(r"\w+", source)) & WORDS_LEFT_OUT, set(), path.name)
            for node in ast.walk(ast.parse(source)):
                bound = getattr(node, "arg", None) or getattr(node, "name", None)
                if isinstance(node, ast.Name) and isinstance(node.ctx, ast.Store):
                    bound = node.id
                if bound:
                    self.assertRegex(bound, r"^[A-Za-z][A-Za-z0-9_]*$")
                    self.assertNotIn(bound, dir(builtins))

    def test_only_known_names_are_called(self):
        for path in FILES:
            tree = ast.parse(path.read_text())
            own = {node.name for node in tree.body if isinstance(node, ast.FunctionDef)}
            for node in ast.walk(tree):
                if isinstance(node, ast.Call) and isinstance(node.func, ast.Name):
                    self.assertIn(node.func.id, own | OWN_NAMES)
                if isinstance(node, ast.Attribute):
                    self.assertIn(node.attr, ALLOWED_METHODS)


if __name__ == "__main__":
    unittest.main()
