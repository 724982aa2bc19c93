"""What is promised over the whole program: MAIN, and what the interface says of all its functions."""

import contextlib
import inspect
import io
import itertools
import pathlib
import subprocess
import sys
import unittest

from calling import MARK, Calling, guarded, model_of, patterned, patterned_film, patterned_model, sheet_bytes
from paintsheets import sheets

TOP = pathlib.Path(__file__).resolve().parent.parent
BYTES = sheet_bytes(3, 2, [(1, 7), (2, 9)], [(3, 0)])
POINTS = [7, 9, 9, 0, 0, 0]
OTHER = [0, 0, 5, 5, 0, 255]
MODEL = model_of({0: [1, 2, 3], 7: [10, 20, 30], 9: [255, 0, 1]})
FILM = [0, 1, 2, 65280, 65534, 65535, 95, 96, 0, 0, 0, 0, 31, 32, 16287, 16288, 0, 0]

# Each a call's name, what is handed in, what is answered.
ANSWERED = [
    ("judge", [BYTES], [0]),
    ("size", [BYTES], [3, 2]),
    ("open_of", [BYTES], [6] + POINTS),
    ("keep", [3, 2, POINTS], [14] + BYTES),
    ("over", [3, 2, OTHER, POINTS], [6, 7, 9, 5, 5, 0, 255]),
    ("move", [3, 2, -1, 1, POINTS], [6, 0, 0, 0, 9, 9, 0]),
    ("repaint", [3, 2, POINTS, [1] * 9 + [8] * 247], [6, 1, 8, 8, 0, 0, 0]),
    ("count", [3, 2, 9, POINTS], [2]),
    ("box", [3, 2, OTHER], [0, 0, 2, 1]),
    ("differ", [3, 2, POINTS, [7, 9, 9, 0, 1, 0]], [4]),
    ("expose", [3, 2, 1, FILM, POINTS, MODEL],
     [10, 256, 257, 65281, 65535, 65535, 115, 96, 0, 2, 2, 2, 61, 33, 16288, 16291, 3, 3]),
    ("develop", [3, 2, FILM], [18, 0, 0, 0, 255, 255, 255, 1, 2, 0, 0, 0, 0, 0, 1, 254, 255, 0, 0]),
]
REFUSED = [
    ("judge", [BYTES + [1]], [-6, 6, 14]),
    ("judge", [[]], [-6, 1, 0]),
    ("size", [BYTES[:9]], [-6]),
    ("open_of", [BYTES[:12]], [-6]),
    ("keep", [2, 2, POINTS], [-1]),
    ("over", [3, 2, OTHER, POINTS[1:]], [-1]),
    ("move", [3, 0, -1, 1, []], [-1]),
    ("repaint", [3, 2, POINTS, [1] * 255], [-1]),
    ("count", [3, 2, 256, POINTS], [-1]),
    ("box", [3, 2, [0] * 6], [-3]),
    ("box", [3, 3, [0] * 6], [-1]),
    ("differ", [3, 2, POINTS, POINTS], [-3]),
    ("differ", [3, 2, POINTS, POINTS + [0]], [-1]),
    ("expose", [3, 2, 65, FILM, POINTS, MODEL], [-1]),
    ("expose", [3, 2, 1, FILM[:17] + [65536], POINTS, MODEL], [-1]),
    ("develop", [3, 2, FILM[1:]], [-1]),
    ("develop", [3, 2, [4294967295] + FILM[1:]], [-1]),
]
CALLS = ANSWERED + REFUSED


class AllFunctions(Calling, unittest.TestCase):
    def test_all_twelve_are_called_here(self):
        self.assertEqual(len(ANSWERED), 12)
        self.assertEqual({name for name, given, wanted in REFUSED}, {name for name, given, wanted in ANSWERED})
        self.assertEqual(len({name for name, given, wanted in CALLS}), 12)

    def test_each_call(self):
        for name, given, wanted in CALLS:
            with self.subTest(name=name):
                self.answers(vars(sheets)[name], given, wanted)

    def test_each_call_behind_each_other_call(self):
        for first, second in itertools.product(CALLS, repeat=2):
            for name, given, wanted in (first, second, first):
                self.assertEqual(vars(sheets)[name](*guarded(given)), wanted, (first[0], second[0]))

    def test_lists_that_several_calls_share(self):
        points, film, model, b = guarded([POINTS, FILM, MODEL, BYTES])
        shared = [(BYTES, b), (POINTS, points), (MODEL, model), (FILM, film)]
        for turn in range(2):
            for name, given, wanted in CALLS:
                handed = [next((kept for value, kept in shared if value == v), v) for v in given]
                self.assertEqual(vars(sheets)[name](*handed), wanted, name)
        self.assertEqual([points, film, model, b], [POINTS, FILM, MODEL, BYTES])

    def test_answer_is_a_list_of_its_own(self):
        for name, given, wanted in CALLS:
            function = vars(sheets)[name]
            first, second = function(*given), function(*given)
            self.assertIsNot(first, second)
            for v in given:
                self.assertIsNot(first, v)

    def test_nothing_is_kept(self):
        before = {name: repr(value) for name, value in vars(sheets).items() if not name.startswith("__")}
        for name, given, wanted in CALLS:
            vars(sheets)[name](*given)
        self.assertEqual({name: repr(v) for name, v in vars(sheets).items() if not name.startswith("__")}, before)
        for function in vars(sheets).values():
            if inspect.isfunction(function):
                self.assertEqual(vars(function), {})
                self.assertIsNone(function.__defaults__)
                self.assertIsNone(function.__closure__)

    def test_nothing_is_printed(self):
        printed = io.StringIO()
        with contextlib.redirect_stdout(printed), contextlib.redirect_stderr(printed):
            for name, given, wanted in CALLS:
                vars(sheets)[name](*given)
        self.assertEqual(printed.getvalue(), "")

    def test_importing_prints_and_imports_nothing(self):
        rows = (
            "import sys; before = set(sys.modules); import paintsheets.sheets;"
            " sys.exit(set(sys.modules) - before != {'paintsheets', 'paintsheets.sheets'})"
        )
        ended = subprocess.run([sys.executable, "-B", "-c", rows], cwd=TOP, capture_output=True, check=False)
        self.assertEqual((ended.returncode, ended.stdout, ended.stderr), (0, b"", b""))


class Main(Calling, unittest.TestCase):
    """From bytes to bytes, and from bytes to what is developed, by every way there is."""

    sizes = ((1, 1), (3, 2), (2, 3), (17, 31), (256, 2), (2, 256))

    def three_sheets(self, w, h):
        points = range(w * h)
        return [[n % 3 * 85 for n in points], [(n // 2 + 1) % 4 for n in points], patterned(w, h)]

    def counted(self, answered):
        self.assertEqual(answered[0], len(answered) - 1)
        return answered[1:]

    def kept(self, w, h, a):
        b = self.counted(sheets.keep(w, h, a))
        self.assertEqual(b[:4], MARK)
        self.assertEqual(sheets.judge(b), [0])
        self.assertEqual(sheets.size(b), [w, h])
        return b

    def opened(self, b):
        return self.counted(sheets.open_of(b))

    def laid(self, w, h, upper, lower):
        """Bytes over bytes, as bytes."""
        return self.kept(w, h, self.counted(sheets.over(w, h, self.opened(upper), self.opened(lower))))

    def moved(self, w, h, dx, dy, b):
        return self.kept(w, h, self.counted(sheets.move(w, h, dx, dy, self.opened(b))))

    def test_sheets_kept_between_any_two_steps(self):
        for w, h in self.sizes:
            for order in itertools.permutations(self.three_sheets(w, h)):
                a, b, c = [self.kept(w, h, points) for points in order]
                both = self.laid(w, h, a, self.laid(w, h, b, c))
                self.assertEqual(self.laid(w, h, self.laid(w, h, a, b), c), both)
                for dx, dy in ((0, 0), (1, 0), (-1, 1), (0, -1), (w, h)):
                    first_moved = [self.moved(w, h, dx, dy, sheet) for sheet in (a, b, c)]
                    upper_two = self.laid(w, h, first_moved[0], first_moved[1])
                    self.assertEqual(self.laid(w, h, upper_two, first_moved[2]), self.moved(w, h, dx, dy, both))

    def test_sheets_differ_just_where_their_bytes_do(self):
        for w, h in self.sizes:
            for a, b in itertools.product(self.three_sheets(w, h), repeat=2):
                alike = self.kept(w, h, a) == self.kept(w, h, b)
                self.assertEqual(sheets.differ(w, h, a, b) == [-3], alike)

    def test_what_is_boxed_counted_and_repainted_agree(self):
        for w, h in self.sizes:
            for a in self.three_sheets(w, h):
                clear = sheets.count(w, h, 0, a)[0]
                self.assertEqual(sheets.box(w, h, a) == [-3], clear == w * h)
                one_paint = self.counted(sheets.repaint(w, h, a, [9] * 256))
                self.assertEqual(sheets.count(w, h, 9, one_paint), [w * h - clear])
                self.assertEqual(sheets.box(w, h, one_paint), sheets.box(w, h, a))

    def test_light_of_sheets_from_bytes_in_any_order(self):
        model = patterned_model()
        for w, h in self.sizes:
            kept = [self.kept(w, h, a) for a in self.three_sheets(w, h)]
            for start in ([0] * (3 * w * h), patterned_film(w, h)):
                ended = []
                for order in itertools.permutations(zip(kept, (64, 17, 40))):
                    film = start
                    for b, e in order:
                        film = sheets.expose(w, h, e, film, self.opened(b), model)
                    ended.append(film + self.counted(sheets.develop(w, h, film)))
                self.assertEqual(len(ended[0]), 6 * w * h)
                self.assertEqual(ended, [ended[0]] * 6)

    def test_laid_sheets_shown_on_dark_film(self):
        model = patterned_model()
        for w, h in self.sizes:
            a, b, c = [self.kept(w, h, points) for points in self.three_sheets(w, h)]
            points = self.opened(self.laid(w, h, a, self.laid(w, h, b, c)))
            half = sheets.expose(w, h, 32, [0] * (3 * w * h), points, model)
            whole = sheets.expose(w, h, 32, half, points, model)
            shown = [model[3 * paint + colour] for colour in range(3) for paint in points]
            self.assertEqual(sheets.develop(w, h, whole), [3 * w * h] + shown)
