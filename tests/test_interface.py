import ast
import builtins
import contextlib
import io
import pathlib
import re
import sys
import unittest

import whichnote.desk
from tests.calls import check_same

PACKAGE = pathlib.Path(whichnote.desk.__file__).parent


def refuse(*args, **kwargs):
    raise AssertionError("the list that was handed in was changed")


CHANGES = (
    "append", "clear", "extend", "insert", "pop", "remove", "reverse", "sort",
    "__setitem__", "__delitem__", "__iadd__", "__imul__",
)
Guarded = type("Guarded", (list,), {name: refuse for name in CHANGES})

MIXED = [0, 44100, 100, 441, 1, 0, 1, 2, 2, 60, 2, 60, 2, 129, 2, 61, 2, 61, 0, 1, 1, 1, 3, 3]
MIXED_ANSWERS = [1, 69, 1, -22, 1, 0, 1, 0, 1, 0, 1, -22, 1, 0, 4, 1, 60, 0, 2, 1, -22, 4, 1, 61, 2, 2, 1, 0]


class Answers(unittest.TestCase):
    def test_counts_and_numbers_in_order(self):
        self.assertEqual(whichnote.desk.answers(list(MIXED)), MIXED_ANSWERS)

    def test_each_call_alone(self):
        self.assertEqual(whichnote.desk.answers([0, 44100, 100, 441]), [1, 69])
        self.assertEqual(whichnote.desk.answers([0, 1000000, 1, 20]), [1, -2])
        self.assertEqual(whichnote.desk.answers([1, 100]), [1, 0])
        self.assertEqual(whichnote.desk.answers([1, 101]), [1, -22])
        self.assertEqual(whichnote.desk.answers([1, 1, 2, 3, 3]), [1, 0, 1, 0, 4, 1, 3, 0, 1])

    def test_plain_kinds(self):
        told = whichnote.desk.answers(list(MIXED))
        self.assertIs(type(told), list)
        self.assertEqual({type(number) for number in told}, {int})

    def test_what_is_handed_in_is_not_changed(self):
        calls = list(MIXED)
        whichnote.desk.answers(calls)
        self.assertEqual(calls, MIXED)
        self.assertEqual(whichnote.desk.answers(Guarded(MIXED)), MIXED_ANSWERS)

    def test_nothing_is_kept(self):
        calls = [1, 1, 2, 60]
        first = whichnote.desk.answers(calls)
        self.assertEqual(whichnote.desk.answers(calls), first)
        whichnote.desk.answers([1, 1, 2, 60, 2, 61])
        self.assertEqual(whichnote.desk.answers([1, 3, 3]), [1, 0, 1, 0])
        first.append(7)
        self.assertEqual(whichnote.desk.answers(calls), [1, 0, 1, 0])

    def test_5000_calls(self):
        check_same(self, whichnote.desk.answers([1, 1] + [3] * 4999), [1, 0] * 5000)
        check_same(self, whichnote.desk.answers([0, 44100, 100, 441] * 5000), [1, 69] * 5000)
        calls = [1, 1]
        expected = [1, 0, 1, 0]
        for number in range(4999):
            calls.extend([2, number % 128])
            if number > 0:
                expected.extend([4, 1, (number - 1) % 128, number - 1, 1])
        check_same(self, whichnote.desk.answers(calls), expected)
        long = [1, 100] + [2, 60] * 4998 + [3]
        check_same(self, whichnote.desk.answers(long), [1, 0] * 4999 + [4, 1, 60, 0, 4998])

    def test_prints_nothing(self):
        out, err = io.StringIO(), io.StringIO()
        with contextlib.redirect_stdout(out), contextlib.redirect_stderr(err):
            whichnote.desk.answers(list(MIXED))
        self.assertEqual((out.getvalue(), err.getvalue()), ("", ""))

    def test_imports_nothing(self):
        before = sorted(sys.modules)
        whichnote.desk.answers(list(MIXED))
        self.assertEqual(sorted(sys.modules), before)


class Form(unittest.TestCase):
    def setUp(self):
        self.texts = {path.name: path.read_text("utf-8") for path in PACKAGE.glob("*.py")}

    def test_files(self):
        names = sorted(path.name for path in PACKAGE.iterdir() if path.name != "__pycache__")
        self.assertEqual(names, ["__init__.py", "desk.py"])

    def test_signs_and_sizes(self):
        for name, text in self.texts.items():
            lines = text.split("\n")
            self.assertLessEqual(len(lines), 400, name)
            self.assertEqual([line for line in lines if not re.fullmatch("[ -~]{0,120}", line)], [], name)
            for node in ast.walk(ast.parse(text)):
                if isinstance(node, ast.FunctionDef):
                    self.assertLessEqual(node.end_lineno - node.lineno + 1, 40, node.name)

    def test_no_import_and_no_own_name_of_python_but_these(self):
        for name, text in self.texts.items():
            for node in ast.walk(ast.parse(text)):
                self.assertNotIsInstance(node, (ast.Import, ast.ImportFrom, ast.Global, ast.Nonlocal), name)
                if isinstance(node, ast.Name) and hasattr(builtins, node.id):
                    self.assertIn(node.id, ("len", "range"), name)

    def test_no_float_and_no_power_above_64(self):
        for name, text in self.texts.items():
            for node in ast.walk(ast.parse(text)):
                self.assertNotIsInstance(node, ast.Div, name)
                if isinstance(node, ast.Constant):
                    self.assertIn(type(node.value), (int, str, bool), name)
                if isinstance(node, ast.BinOp) and isinstance(node.op, ast.Pow):
                    self.assertIsInstance(node.right, ast.Constant, name)
                    self.assertLessEqual(node.right.value, 64, name)


if __name__ == "__main__":
    unittest.main()
