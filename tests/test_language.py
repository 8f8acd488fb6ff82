"""That the package keeps to the rules of its language, L1 to L28, as far as its signs tell (sizes: test_form).

The tests let through what the package uses, and not all that the rules let: who needs more of
the language reads the rules first, and then adds it here.
"""

import ast
import builtins
import re
import unittest
from pathlib import Path

FOLDER = Path(__file__).resolve().parent.parent / "primeslip"
FILES = {path.stem: path.read_text(encoding="ascii") for path in sorted(FOLDER.glob("*.py"))}
TREES = {name: ast.parse(text) for name, text in FILES.items()}

NODES = {
    # L3 to L6: what stands in a file, in a class, in a function.
    "Module", "ImportFrom", "alias", "FunctionDef", "arguments", "arg", "ClassDef", "Assign", "Expr", "Return", "If",
    "For", "While", "Raise", "Delete", "Break", "Continue", "Pass",
    # L7: values.
    "Constant", "Name", "Load", "Store", "Del", "Attribute", "Subscript", "Slice", "Call", "Tuple", "List", "Dict",
    "ListComp", "DictComp", "SetComp", "comprehension", "Starred", "JoinedStr", "FormattedValue", "IfExp",
    "BoolOp", "And", "Or", "UnaryOp", "Not", "USub", "BinOp", "Add", "Sub", "Mult", "FloorDiv", "Mod", "Pow",
    "Compare", "Eq", "NotEq", "Lt", "LtE", "Gt", "GtE", "In", "NotIn", "Is", "IsNot",
}
BUILTINS = {
    "len", "range", "enumerate", "zip", "min", "max", "sum", "abs", "sorted", "reversed", "int", "str", "bool", "list",
    "tuple", "dict", "set", "isinstance", "ord", "repr", "any", "all", "divmod", "ValueError",
}
METHODS = {
    "append", "clear", "copy", "count", "endswith", "extend", "find", "get", "index", "insert", "isalnum", "isalpha",
    "isdigit", "islower", "isspace", "isupper", "items", "join", "keys", "ljust", "lower", "lstrip", "partition", "pop",
    "remove", "replace", "reverse", "rfind", "rjust", "rpartition", "rsplit", "rstrip", "setdefault", "split",
    "splitlines", "startswith", "strip", "update", "upper", "values", "zfill", "bit_length", "isascii", "isdecimal",
}
WORDS_NOT_USED = (
    "register mro elements open input law version_info with_traceback add_note type typing typing_extensions enum Enum "
    "Flag Generic Protocol ABC ABCMeta namedtuple NamedTuple TypedDict abstractmethod dataclass overload contextmanager "
    "attrgetter breakpoint compile copyright credits delattr dir eval exec exit gc getattr globals hasattr help id "
    "importlib license locals methodcaller os quit setattr super sys vars global nonlocal lambda async yield"
).split()


def nodes(*kinds):
    """Each node of some kinds, and where it stands."""
    for name, tree in TREES.items():
        for node in ast.walk(tree):
            if isinstance(node, kinds):
                yield f"{name}.py, line {getattr(node, 'lineno', 0)}", node


def stored(tree):
    """The names that parameters, assignments, loops and comprehensions assign to."""
    for node in ast.walk(tree):
        if isinstance(node, ast.arg):
            yield node.arg
        elif isinstance(node, ast.Name) and isinstance(node.ctx, ast.Store):
            yield node.id


def imported(tree):
    return [(node.module, alias.name) for node in tree.body if isinstance(node, ast.ImportFrom) for alias in node.names]


def defined(tree):
    """The names that a file itself gives at module level."""
    names = [node.name for node in tree.body if isinstance(node, (ast.FunctionDef, ast.ClassDef))]
    return names + [node.targets[0].id for node in tree.body if isinstance(node, ast.Assign)]


class Rules(unittest.TestCase):

    def test_l1_l14_files(self):
        for name in FILES:
            self.assertRegex(name, "^([a-z][a-z0-9]*|__init__)$")
            self.assertFalse(name.startswith("test") or name in ("site", "conftest"))
            self.assertTrue(name == "__init__" or not hasattr(builtins, name))
        folders = [path.name for path in FOLDER.iterdir() if path.is_dir() and path.name != "__pycache__"]
        self.assertEqual(folders, [])

    def test_l3_to_l7_only_kinds_of_code_that_are_let(self):
        for at, node in nodes(ast.AST):
            self.assertIn(type(node).__name__, NODES, at)

    def test_l2_l16_imports_name_the_file_that_defines_the_name(self):
        for name, tree in TREES.items():
            for module, word in imported(tree):
                with self.subTest(file=name, word=word):
                    package, file = module.split(".")
                    self.assertEqual(package, "primeslip")
                    self.assertIn(word, defined(TREES[file]))
        for at, node in nodes(ast.alias):
            self.assertIsNone(node.asname, at)
        for tree in TREES.values():
            kinds = [isinstance(node, ast.ImportFrom) for node in tree.body[1:]]
            self.assertEqual(kinds, sorted(kinds, reverse=True))

    def test_l16_no_two_files_import_from_each_other(self):
        left = {name: {module.split(".")[1] for module, _ in imported(tree)} for name, tree in TREES.items()}
        while left:
            done = [name for name, others in left.items() if not others & set(left)]
            self.assertTrue(done, f"a ring of imports among {sorted(left)}")
            for name in done:
                del left[name]

    def test_l3_l15_module_level(self):
        for name, tree in TREES.items():
            self.assertIsNotNone(ast.get_docstring(tree), name)
            names = defined(tree) + [word for _, word in imported(tree)]
            self.assertEqual(len(names), len(set(names)))
            for node in tree.body:
                if isinstance(node, ast.Assign):
                    self.assertEqual(len(node.targets), 1)
                    self.assertNotIsInstance(node.value, (ast.List, ast.Dict, ast.Call, ast.Name))

    def test_l4_functions(self):
        for at, node in nodes(ast.FunctionDef):
            self.assertEqual(node.decorator_list, [], at)
            args = node.args
            self.assertFalse(args.defaults or args.kw_defaults or args.vararg or args.kwarg or args.posonlyargs, at)
            inner = [other for other in ast.walk(node) if isinstance(other, ast.FunctionDef) and other is not node]
            self.assertEqual(inner, [], at)

    def test_l5_l18_classes(self):
        for at, node in nodes(ast.ClassDef):
            self.assertFalse(node.decorator_list or node.keywords, at)
            self.assertLessEqual(len(node.bases), 1, at)
            methods = [row.name for row in node.body if isinstance(row, ast.FunctionDef)]
            self.assertEqual(len(methods), len(set(methods)), at)
            self.assertEqual([name for name in methods if name.startswith("__") and name != "__init__"], [], at)
            attributes = {
                other.attr for other in ast.walk(node) if isinstance(other, ast.Attribute)
                and isinstance(other.ctx, ast.Store)
            }
            self.assertFalse(attributes & set(methods), at)
            for row in node.body:
                self.assertIsInstance(row, (ast.Expr, ast.FunctionDef), at)

    def test_l7_l27_values(self):
        for at, node in nodes(ast.Constant):
            self.assertIn(type(node.value), (int, str, bool, type(None)), at)
        for at, node in nodes(ast.BinOp):
            if isinstance(node.op, ast.Pow):
                self.assertIsInstance(node.right, ast.Constant, at)
                self.assertTrue(0 <= node.right.value <= 64, at)
            if isinstance(node.op, ast.Mod):
                self.assertNotIsInstance(node.left, ast.JoinedStr, at)
                self.assertNotIsInstance(getattr(node.left, "value", None), str, at)

    def test_l27_signs_of_strings(self):
        for name, text in FILES.items():
            self.assertNotIn("%", re.sub(" % ", "", text), name)
            for escape in re.findall(r"\\.", text):
                self.assertIn(escape, ("\\n", "\\t", "\\\\"))
        for at, node in nodes(ast.Constant):
            if isinstance(node.value, str):
                self.assertNotIn("%", node.value, at)
                self.assertNotIn("__", node.value, at)

    def test_l7_f_strings_hold_names_without_formats(self):
        for at, node in nodes(ast.FormattedValue):
            self.assertIsInstance(node.value, ast.Name, at)
            self.assertIsNone(node.format_spec, at)
            self.assertEqual(node.conversion, -1, at)

    def test_l8_builtins(self):
        for name, tree in TREES.items():
            own = set(defined(tree)) | set(stored(tree)) | {word for _, word in imported(tree)}
            for node in ast.walk(tree):
                if isinstance(node, ast.Name) and isinstance(node.ctx, ast.Load):
                    with self.subTest(file=name, line=node.lineno, name=node.id):
                        self.assertTrue(node.id in own or node.id in BUILTINS)

    def test_l12_l15_l17_names(self):
        plain = re.compile("^(_?[A-Za-z][A-Za-z0-9_]*|_|__init__)$")
        for name, tree in TREES.items():
            taken = set(defined(tree)) | {word for _, word in imported(tree)}
            functions = {node.name for node in ast.walk(tree) if isinstance(node, (ast.FunctionDef, ast.ClassDef))}
            inner = set(stored(tree)) - {node.targets[0].id for node in tree.body if isinstance(node, ast.Assign)}
            self.assertFalse(inner & taken, name)
            for word in taken | functions | inner | {node.attr for node in ast.walk(tree) if isinstance(node, ast.Attribute)}:
                with self.subTest(file=name, word=word):
                    self.assertRegex(word, plain)
                    self.assertNotIn(word, WORDS_NOT_USED)
            read = [node.id for node in ast.walk(tree) if isinstance(node, ast.Name) and isinstance(node.ctx, ast.Load)]
            self.assertNotIn("_", read)

    def test_l17_words_in_code(self):
        for name, text in FILES.items():
            without = re.sub(r'"""(.|\n)*?"""|#.*', "", text)
            self.assertEqual(set(re.findall("[A-Za-z_]+", without)) & set(WORDS_NOT_USED), set(), name)

    def test_l19_errors(self):
        own = defined(TREES["errors"])
        for at, node in nodes(ast.Raise):
            self.assertIsNone(node.cause, at)
            self.assertIsInstance(node.exc, ast.Call, at)
            self.assertIn(node.exc.func.id, own, at)
            for word in node.exc.args:
                self.assertIsInstance(word, ast.Constant, at)

    def test_l20_is(self):
        for at, node in nodes(ast.Compare):
            for op, side in zip(node.ops, node.comparators):
                if isinstance(op, (ast.Is, ast.IsNot)):
                    self.assertIsInstance(side, ast.Constant, at)

    def test_l22_calls(self):
        for at, node in nodes(ast.Call):
            self.assertEqual(node.keywords, [], at)
            self.assertIsInstance(node.func, (ast.Name, ast.Attribute), at)
            self.assertFalse([word for word in node.args if isinstance(word, (ast.Starred, ast.GeneratorExp))], at)

    def test_l23_iterated_at_once(self):
        let = set()
        for _, node in nodes(ast.For, ast.comprehension):
            let.add(id(node.iter))
        for _, node in nodes(ast.Call):
            if isinstance(node.func, ast.Name) and node.func.id in ("list", "tuple", "dict", "sorted", "sum", "any", "all"):
                let.add(id(node.args[0]))
        for at, node in nodes(ast.Call):
            word = getattr(node.func, "id", None) or node.func.attr
            if word in ("zip", "enumerate", "reversed", "range", "items", "keys", "values"):
                self.assertIn(id(node), let, at)

    def test_l24_sets_are_sorted_at_once(self):
        let = {id(node.args[0]) for _, node in nodes(ast.Call) if getattr(node.func, "id", None) in ("sorted", "len")}
        for at, node in nodes(ast.SetComp):
            self.assertIn(id(node), let, at)

    def test_l25_l26_methods(self):
        own = {row.name for _, node in nodes(ast.ClassDef) for row in node.body if isinstance(row, ast.FunctionDef)}
        for at, node in nodes(ast.Call):
            if isinstance(node.func, ast.Attribute):
                self.assertIn(node.func.attr, METHODS | own, at)
        self.assertFalse(own & METHODS)


if __name__ == "__main__":
    unittest.main()
