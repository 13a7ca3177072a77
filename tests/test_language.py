"""The rules of LANGUAGE.md that can be seen in a file, and where the names of the interface stand."""

import ast
import builtins
import re
import unittest
from pathlib import Path

ROOT = Path(__file__).resolve().parent.parent / "warycard"
FILES = sorted(ROOT.rglob("*.py"))
# The names of the interface that are there, by file, and the methods of its classes.
INTERFACE = {
    "errors": ("CardError", "BadSource", "BadTree", "BadProgram", "BadModule", "BadPackage", "BadLink", "BadCode",
               "BadPaper", "BadScript", "Fault", "StepsGone", "PowerCut"),
    "words": ("SIGNS", "is_word", "wrap", "op"),
    "texts": ("is_integer", "is_printable", "is_name", "is_text"),
    "tokens": ("KEYWORDS", "is_free_name", "tokens"),
    "forms": ("is_tree",),
    "syntax": ("parse",),
    "printing": ("write",),
    "packages": ("Package",),
    "core": ("is_core",),
    "checking": ("check",),
    "naming": ("source",),
    "plain": ("PlainCard",),
    "instructions": ("NAMES",),
    "modules": ("is_module",),
    "packing": ("pack", "unpack"),
    "compiling": ("build",),
    "linking": ("World",),
    "trying": ("try_module",),
    "looks": ("paper", "judge"),
    "cells": ("Cells",),
    "journal": ("JOURNAL_CELLS", "Journal"),
    "heap": ("BYTES", "TEMP", "BUFFER", "HEAP_CELLS", "Heap"),
    "names": ("NAMES_CELLS", "CHARACTERS", "Names"),
    "machine": ("Machine",),
    "card": ("Card",),
    "scripts": ("parse_script", "run"),
    "judging": ("fault",),
}
METHODS = {
    ("packages", "Package"): ("fits", "is_known", "heads"),
    ("plain", "PlainCard"): ("load", "make", "choose", "send", "drop", "collect", "reset", "cut", "state", "used",
                             "chosen"),
    ("linking", "World"): ("add", "names", "module", "face", "count", "number", "package", "own", "fields", "method", "row",
                           "is_kind", "fits", "applet"),
    ("cells", "Cells"): ("read", "write", "cut", "restore", "on"),
    ("journal", "Journal"): ("change", "begin", "commit", "abort", "put_back", "is_open"),
    ("names", "Names"): ("put", "remove", "rows"),
    ("machine", "Machine"): ("run", "looks"),
    ("card", "Card"): ("load", "make", "choose", "send", "drop", "collect", "cut", "reset", "chosen", "state", "used", "on",
                       "looks"),
    ("heap", "Heap"): ("make", "collect", "kind", "owner", "size", "read", "write", "fill", "numbers", "used", "reached"),
}
BUILTINS = set("""
    len range enumerate zip min max sum abs sorted reversed int str bool bytes list tuple dict set frozenset
    isinstance ord repr any all divmod pow getattr hasattr setattr iter next map Exception ValueError TypeError
    KeyError IndexError LookupError ZeroDivisionError ArithmeticError OverflowError RuntimeError
    NotImplementedError AttributeError StopIteration NotImplemented print super property staticmethod classmethod
""".split())
# The words that stand in no file outside of comments and docstrings, and names that nothing has.
WORDS = ("typing", "typing_extensions", "enum", "Enum", "IntEnum", "StrEnum", "Flag", "IntFlag", "Generic", "Protocol",
         "ABC", "ABCMeta", "namedtuple", "NamedTuple", "TypedDict", "TYPE_CHECKING", "abstractmethod")
NAMES = ("register", "mro", "elements", "open", "input", "law", "version_info", "with_traceback", "add_note", "type")
ATTRIBUTES = ("items", "keys", "values", "pop", "update", "append", "clear", "extend", "insert", "remove", "reverse",
              "setdefault", "sort", "args", "encode", "decode", "hex", "fromhex", "format", "format_map")
METHODS_OF_BUILTINS = set("""
    append clear copy count endswith extend find get index insert isalnum isalpha isdigit islower isspace isupper
    items join keys ljust lower lstrip partition pop remove replace reverse rfind rjust rpartition rsplit rstrip
    setdefault split splitlines startswith strip update upper values zfill bit_length title capitalize swapcase
    casefold center expandtabs removeprefix removesuffix rindex isascii isdecimal isnumeric istitle isidentifier
    isprintable translate encode decode hex sort add discard format
""".split())


def tree_of(path):
    return ast.parse(path.read_text(encoding="utf-8"))


def docstrings(tree):
    """Return the nodes of all docstrings."""
    found = []
    for node in ast.walk(tree):
        body = getattr(node, "body", None)
        if isinstance(body, list) and body and isinstance(body[0], ast.Expr):
            if isinstance(body[0].value, ast.Constant) and isinstance(body[0].value.value, str):
                found.append(body[0].value)
    return found


def strings(tree):
    skipped = docstrings(tree)
    for node in ast.walk(tree):
        if isinstance(node, ast.Constant) and isinstance(node.value, str) and node not in skipped:
            yield node.value


def defined(tree):
    """Return the names that a file binds at its top, without imports."""
    found = []
    for node in tree.body:
        if isinstance(node, (ast.FunctionDef, ast.ClassDef)):
            found.append(node.name)
        elif isinstance(node, ast.Assign):
            found.extend(target.id for target in node.targets)
    return found


def imports(tree):
    return [node for node in ast.walk(tree) if isinstance(node, (ast.Import, ast.ImportFrom))]


def functions(tree):
    return [node for node in ast.walk(tree) if isinstance(node, ast.FunctionDef)]


def captured(node):
    """Return the names that patterns below a node capture."""
    found = {part.name for part in ast.walk(node) if isinstance(part, (ast.MatchAs, ast.MatchStar))}
    return found - {None}


def parents(tree):
    return {child: node for node in ast.walk(tree) for child in ast.iter_child_nodes(node)}


def tables(path, tree):
    """Return the names of the lists and dicts at the top of a file, imported ones too."""
    found = {node.targets[0].id for node in tree.body
             if isinstance(node, ast.Assign) and isinstance(node.value, (ast.Dict, ast.List))}
    for node in imports(tree):
        other = ROOT / (node.module.split(".")[1] + ".py")
        found |= {name.name for name in node.names if name.name in tables(other, tree_of(other))}
    return found


def each_file(test):
    """Run a test once for each file of the package, which it gets with its syntax tree."""
    def run(self):
        for path in FILES:
            with self.subTest(path.name):
                test(self, path, tree_of(path))
    return run


class LanguageTest(unittest.TestCase):
    def test_files(self):
        self.assertLessEqual(len(FILES), 100)
        for path in ROOT.rglob("*"):
            if "__pycache__" not in path.parts:
                self.assertRegex(path.name, r"^[a-z0-9_]+\.py$")

    @each_file
    def test_size_and_characters(self, path, tree):
        text = path.read_bytes().decode("ascii")
        rows = text.split("\n")
        self.assertLessEqual(len(rows) - 1, 399)
        self.assertTrue(text.endswith("\n"))
        for row in rows:
            self.assertRegex(row, r"^[ -~]{0,120}$")
        for node in ast.walk(tree):
            if isinstance(node, ast.FunctionDef):
                self.assertLessEqual(node.end_lineno - node.lineno + 1, 40, node.name)

    @each_file
    def test_imports(self, path, tree):
        for node in imports(tree):
            self.assertIn(node, tree.body)
            self.assertIsInstance(node, ast.ImportFrom)
            self.assertRegex(node.module, r"^warycard\.[a-z0-9_]+$")
            other = defined(tree_of(ROOT / (node.module.split(".")[1] + ".py")))
            for name in node.names:
                self.assertIn(name.name, other)
                self.assertIsNone(name.asname)

    def test_no_ring_of_imports(self):
        rows = {path.stem: {node.module.split(".")[1] for node in imports(tree_of(path))} for path in FILES}
        self.assertEqual(rows["__init__"], set())
        while rows:
            free = [name for name, needed in rows.items() if not needed & set(rows)]
            self.assertTrue(free, sorted(rows))
            for name in free:
                del rows[name]

    @each_file
    def test_module_level(self, path, tree):
        allowed = (ast.ImportFrom, ast.FunctionDef, ast.ClassDef, ast.Assign, ast.Expr)
        names = defined(tree) + [name.name for node in imports(tree) for name in node.names]
        self.assertEqual(len(names), len(set(names)))
        for node in tree.body:
            self.assertIsInstance(node, allowed)
            if isinstance(node, ast.Expr):
                self.assertIs(node, tree.body[0])
            if isinstance(node, ast.Assign):
                self.assertEqual([type(target) for target in node.targets], [ast.Name])
                inner = [type(part) for part in ast.walk(node.value)]
                self.assertFalse({ast.Call, ast.Set, ast.ListComp, ast.Lambda} & set(inner))
                self.assertLessEqual(sum(kind in (ast.Dict, ast.List) for kind in inner), 1)

    @each_file
    def test_statements_and_expressions(self, path, tree):
        barred = (ast.Global, ast.AsyncFunctionDef, ast.AsyncFor, ast.AsyncWith, ast.Await, ast.Div, ast.MatMult)
        for node in ast.walk(tree):
            self.assertNotIsInstance(node, barred)
            if isinstance(node, ast.Constant):
                self.assertNotIsInstance(node.value, (float, complex))
            if isinstance(node, (ast.FunctionDef, ast.ClassDef)):
                self.assertEqual(node.decorator_list, [])
            if isinstance(node, ast.Compare):
                for sign, right in zip(node.ops, node.comparators):
                    if isinstance(sign, (ast.Is, ast.IsNot)):
                        self.assertIn(ast.unparse(right), ("None", "True", "False"))
            if isinstance(node, ast.ExceptHandler):
                self.assertIsNotNone(node.type)

    @each_file
    def test_names(self, path, tree):
        taken = set(defined(tree)) | {name.name for node in imports(tree) for name in node.names}
        barred = {name.name for node in imports(tree) for name in node.names}
        barred |= {node.name for node in ast.walk(tree) if isinstance(node, ast.ClassDef)}
        for node in ast.walk(tree):
            if isinstance(node, ast.arg):
                bound = node.arg
            elif isinstance(node, ast.Name) and isinstance(node.ctx, ast.Store):
                bound = node.id
            elif isinstance(node, (ast.MatchAs, ast.MatchStar, ast.FunctionDef)):
                bound = node.name
            else:
                continue
            self.assertFalse(bound in dir(builtins), bound)
            self.assertNotIn(bound, NAMES)
            self.assertNotIn(bound, barred)
        for node in ast.walk(tree):
            if isinstance(node, ast.Name) and isinstance(node.ctx, ast.Load) and node.id in dir(builtins):
                self.assertTrue(node.id in BUILTINS and node.id not in taken, node.id)

    @each_file
    def test_captured_names(self, path, tree):
        for function in functions(tree):
            names = captured(function)
            others = {part.arg for part in ast.walk(function) if isinstance(part, ast.arg)}
            others |= {part.id for part in ast.walk(function)
                       if isinstance(part, ast.Name) and isinstance(part.ctx, (ast.Store, ast.Del))}
            others |= {part.name for part in ast.walk(function) if isinstance(part, ast.ExceptHandler)}
            self.assertFalse(names & others, function.name)
            inside = {}
            for case in [part for part in ast.walk(function) if isinstance(part, ast.match_case)]:
                for name in captured(case.pattern):
                    inside.setdefault(name, set()).update(ast.walk(case))
            for part in ast.walk(function):
                if isinstance(part, ast.Name) and part.id in names:
                    self.assertIn(part, inside[part.id], part.id)
                if isinstance(part, (ast.ListComp, ast.DictComp, ast.SetComp)):
                    first = list(ast.walk(part.generators[0].iter))
                    read = {one.id for one in ast.walk(part) if isinstance(one, ast.Name) and one not in first}
                    self.assertFalse(read & names, function.name)

    @each_file
    def test_names_in_classes(self, path, tree):
        barred = ("property", "staticmethod", "classmethod", "super", "args")
        for node in [part for part in tree.body if isinstance(part, ast.ClassDef)]:
            for part in ast.walk(node):
                names = [getattr(part, word, None) for word in ("id", "arg", "name", "attr")]
                self.assertFalse(set(barred) & set(names))
                if isinstance(part, ast.Assign):
                    for target in part.targets:
                        # An attribute is assigned through a local name.
                        self.assertFalse(isinstance(target, ast.Attribute) and not isinstance(target.value, ast.Name))

    @each_file
    def test_patterns(self, path, tree):
        for node in ast.walk(tree):
            if isinstance(node, ast.MatchOr):
                self.assertFalse([part for part in ast.walk(node) if isinstance(part, (ast.MatchAs, ast.MatchStar))])
            self.assertNotIsInstance(node, (ast.MatchClass, ast.MatchMapping))
            if isinstance(node, ast.MatchStar):
                self.assertIsNotNone(node.name)

    @each_file
    def test_tables_are_only_read(self, path, tree):
        names = tables(path, tree)
        above = parents(tree)
        for node in ast.walk(tree):
            if not isinstance(node, ast.Name) or node.id not in names or not isinstance(node.ctx, ast.Load):
                continue
            around = above[node]
            if isinstance(around, ast.Attribute):
                self.assertIn(around.attr, ("get", "index", "count", "items", "keys", "values"))
            elif isinstance(around, ast.Call):
                self.assertIn(around.func.id, ("len", "list", "tuple", "dict", "sorted", "sum", "min", "max", "any", "all"))
            elif isinstance(around, ast.Subscript):
                self.assertIs(around.value, node)
                # A function of a table gets a name before it is called.
                self.assertFalse(isinstance(above[around], ast.Call) and above[around].func is around)
            else:
                self.assertIsInstance(around, (ast.For, ast.comprehension, ast.Compare))

    @each_file
    def test_calls(self, path, tree):
        """A method of a builtin value has no keywords, and no comprehension stands for a generator."""
        for node in ast.walk(tree):
            self.assertNotIsInstance(node, (ast.GeneratorExp, ast.Lambda, ast.Yield, ast.YieldFrom, ast.NamedExpr))
            if isinstance(node, ast.Call):
                self.assertIsInstance(node.func, (ast.Name, ast.Attribute))
                if isinstance(node.func, ast.Attribute) and node.func.attr in METHODS_OF_BUILTINS:
                    self.assertEqual(node.keywords, [])
            if isinstance(node, ast.FunctionDef):
                self.assertFalse([part for part in ast.walk(node) if isinstance(part, ast.FunctionDef) and part is not node])
            if isinstance(node, ast.Raise) and node.exc is not None:
                self.assertIsInstance(node.exc, ast.Call)

    def test_attributes(self):
        rows = [tree_of(path) for path in FILES]
        own = {part.name for tree in rows for node in ast.walk(tree) if isinstance(node, ast.ClassDef)
               for part in node.body if isinstance(part, ast.FunctionDef)}
        stored = {node.attr for tree in rows for node in ast.walk(tree)
                  if isinstance(node, ast.Attribute) and isinstance(node.ctx, ast.Store)}
        read = {node.attr for tree in rows for node in ast.walk(tree) if isinstance(node, ast.Attribute)}
        self.assertFalse(stored & set(ATTRIBUTES))
        self.assertFalse(read & set(NAMES))
        self.assertFalse(read - stored - own - METHODS_OF_BUILTINS)
        # No rule asks for this one, but it is the plainest way to keep L18.
        self.assertFalse(own & stored)

    @each_file
    def test_strings_and_words(self, path, tree):
        for text in strings(tree):
            self.assertNotIn(chr(37), text)
            self.assertFalse(text.endswith(("._", ".__")))
            self.assertFalse(set(re.findall(r"\w+", text)) & set(WORDS), text)
            self.assertNotRegex(text, r"[\x00-\x09\x0b-\x1f\x7f]")
        for node in ast.walk(tree):
            if isinstance(node, (ast.Name, ast.Attribute, ast.FunctionDef, ast.ClassDef)):
                name = getattr(node, "id", getattr(node, "attr", getattr(node, "name", "")))
                self.assertNotIn(name, WORDS + NAMES)
                self.assertTrue(name in ("__init__", "__call__") or re.match(r"^_?[A-Za-z][A-Za-z0-9_]*$|^_$", name), name)

    def test_interface(self):
        for stem, names in INTERFACE.items():
            found = defined(tree_of(ROOT / (stem + ".py")))
            for name in names:
                self.assertIn(name, found)
        for (stem, name), methods in METHODS.items():
            for node in tree_of(ROOT / (stem + ".py")).body:
                if isinstance(node, ast.ClassDef) and node.name == name:
                    own = [part.name for part in node.body if isinstance(part, ast.FunctionDef)]
            for method in methods:
                self.assertIn(method, own)


if __name__ == "__main__":
    unittest.main()
