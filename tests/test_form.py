"""The form of the package: its files, their sizes and signs, and where the interface is defined."""

import ast
import builtins
import importlib
import inspect
import unittest
from pathlib import Path

FOLDER = Path(__file__).resolve().parent.parent / "primeslip"
FILES = sorted(FOLDER.rglob("*.py"))

FUNCTIONS = {
    "powers": {"powered": ["base", "exponent", "by"], "least_divisor": ["number"]},
    "rows": {"is_row": ["thing"], "tells_prime": ["row"], "needs": ["row"], "holds": ["row", "primes"]},
    "slips": {"is_slip": ["thing"], "says": ["slip"], "wrong_at": ["slip"], "lets_by": ["thing"]},
    "parts": {"stands_on": ["slip", "number"], "cut": ["slip", "number"], "merged": ["slips"]},
    "making": {"made": ["number"], "grown": ["number", "base", "slips"]},
    "texts": {"written": ["slip"], "read": ["text"]},
}
CLASSES = {
    "errors": ["SlipError", "NoNumber", "NoSlip", "NoRow", "NotHeld", "Needed", "NoText"],
    "shelf": ["Shelf"],
}
METHODS = {
    "put": ["self", "thing"], "told": ["self", "number"], "numbers": ["self"], "slip": ["self", "number"],
    "drop": ["self", "number"],
}
LIBRARY = {"heapq", "math", "itertools", "collections", "__future__"}


def defined_in(module, kind):
    tree = ast.parse((FOLDER / f"{module}.py").read_text(encoding="ascii"))
    return [node.name for node in tree.body if isinstance(node, kind)]


class Interface(unittest.TestCase):

    def test_each_function_stands_in_its_file_with_its_arguments(self):
        for module, functions in FUNCTIONS.items():
            for name, arguments in functions.items():
                with self.subTest(module=module, name=name):
                    self.assertIn(name, defined_in(module, ast.FunctionDef))
                    function = getattr(importlib.import_module(f"primeslip.{module}"), name)
                    self.assertEqual(list(inspect.signature(function).parameters), arguments)

    def test_each_class_stands_in_its_file(self):
        for module, names in CLASSES.items():
            for name in names:
                with self.subTest(module=module, name=name):
                    self.assertIn(name, defined_in(module, ast.ClassDef))

    def test_each_method_stands_in_the_shelf_itself(self):
        shelf = importlib.import_module("primeslip.shelf").Shelf
        for name, arguments in METHODS.items():
            with self.subTest(name=name):
                self.assertTrue(inspect.isfunction(vars(shelf)[name]))
                self.assertEqual(list(inspect.signature(vars(shelf)[name]).parameters), arguments)
        self.assertEqual(list(inspect.signature(shelf).parameters), [])


class Form(unittest.TestCase):

    def nodes(self, *kinds):
        for file in FILES:
            for node in ast.walk(ast.parse(file.read_text(encoding="ascii"))):
                if isinstance(node, kinds):
                    yield file.name, node

    def test_the_folder_holds_nothing_but_files_of_the_program(self):
        found = [path for path in FOLDER.rglob("*") if path.is_file() and "__pycache__" not in path.parts]
        self.assertEqual(sorted(found), FILES)
        self.assertIn(FOLDER / "__init__.py", FILES)

    def test_sizes_and_signs(self):
        for file in FILES:
            with self.subTest(file=file.name):
                lines = file.read_text(encoding="ascii").split("\n")
                self.assertLessEqual(len(lines), 400)
                self.assertLessEqual(max(map(len, lines)), 120)
                self.assertTrue(all(" " <= sign <= "~" for line in lines for sign in line))

    def test_functions_have_at_most_40_lines(self):
        for name, node in self.nodes(ast.FunctionDef):
            with self.subTest(file=name, function=node.name):
                self.assertLessEqual(node.end_lineno - node.lineno + 1, 40)

    def test_imports_are_of_the_package_or_of_what_is_let(self):
        for name, node in self.nodes(ast.Import, ast.ImportFrom):
            with self.subTest(file=name, line=node.lineno):
                self.assertIsInstance(node, ast.ImportFrom)
                self.assertEqual(node.level, 0)
                self.assertIn(node.module.split(".")[0], LIBRARY | {"primeslip"})

    def test_no_name_of_a_builtin_is_taken(self):
        for name, node in self.nodes(ast.arg, ast.Name, ast.FunctionDef, ast.ClassDef):
            if isinstance(node, ast.Name) and not isinstance(node.ctx, ast.Store):
                continue
            taken = getattr(node, "arg", None) or getattr(node, "id", None) or node.name
            with self.subTest(file=name, line=node.lineno):
                self.assertTrue(taken == "__init__" or not hasattr(builtins, taken), taken)

    def test_what_stands_at_module_level(self):
        for file in FILES:
            names = []
            for node in ast.parse(file.read_text(encoding="ascii")).body:
                with self.subTest(file=file.name, line=node.lineno):
                    kinds = (ast.ImportFrom, ast.FunctionDef, ast.ClassDef, ast.Assign, ast.Expr)
                    self.assertIsInstance(node, kinds)
                    if isinstance(node, ast.ImportFrom):
                        names += [alias.name for alias in node.names]
                    elif isinstance(node, ast.Assign):
                        names += [target.id for target in node.targets]
                    elif isinstance(node, ast.Expr):
                        self.assertIsInstance(node.value, ast.Constant)
                    else:
                        names.append(node.name)
            self.assertEqual(len(names), len(set(names)))


if __name__ == "__main__":
    unittest.main()
