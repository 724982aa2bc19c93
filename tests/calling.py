"""What the tests share: sheets, right and wrong, and calls that watch what the program does beside answering."""

import contextlib
import io
import itertools

MARK = [0x43, 0x45, 0x4C, 0x31]
VERY_LARGE = (65535, 65537, 4294967296, 18446744073709551615)
WRONG_SIDES = (0, 257) + VERY_LARGE


def head(w, h):
    return MARK + [w % 256, w // 256, h % 256, h // 256]


def sheet_bytes(w, h, *rows):
    """The head, then the rows, each a list of (points, paint)."""
    b = head(w, h)
    for row in rows:
        for points, paint in row:
            b = b + [points - 1, paint]
    return b


def lists(values, length):
    return [list(t) for t in itertools.product(values, repeat=length)]


def patterned(w, h):
    return [(x // (1 + y % 5) * 37 + y // 2) % 256 for y in range(h) for x in range(w)]


def model_of(lights):
    """The model with the lights that are told, {paint: [red, green, blue]}, and no light of other paints."""
    return [n for paint in range(256) for n in lights.get(paint, [0, 0, 0])]


def patterned_model():
    """A model with the three numbers of each paint apart, and no two paints' lights alike."""
    return [n for p in range(256) for n in (p, 255 - p // 2, (p * 5 + 77) % 256)]


def patterned_film(w, h):
    return [(n * 4099 + n // 7) % 65536 for n in range(3 * w * h)]


def wrong_sizes():
    """Each a width, a height, and how many points are handed in, all wrong by the width or the height."""
    wrong = [(w, 1, points) for w in WRONG_SIDES for points in (0, 1, 257)]
    wrong += [(1, h, points) for h in WRONG_SIDES for points in (0, 1, 257)]
    wrong += [(w, h, 0) for w in WRONG_SIDES for h in WRONG_SIDES]
    return wrong + [(514, 2, 1028), (2, 514, 1028)]


def wrong_counts():
    """Each a width and a height that are right, and another number of points than theirs."""
    return [
        (1, 1, 0), (256, 256, 0), (3, 2, 0), (1, 1, 2), (3, 2, 3), (3, 2, 5), (3, 2, 7), (3, 2, 12),
        (256, 1, 255), (256, 1, 257), (1, 256, 255), (1, 256, 257), (256, 24, 6143),
    ]


def wrong_films(w, h):
    """Each no film of the width and height, though these be right: by its length, or by one of its numbers."""
    right = patterned_film(w, h)
    lengths = [0, w * h, len(right) - 1, len(right) + 1, 2 * len(right)]
    wrong = [(right * 2)[:length] for length in lengths]
    for place in (0, len(right) // 2, len(right) - 1):
        for number in (65536, 65537, 131071, 4294967295):
            wrong.append(right[:place] + [number] + right[place + 1:])
    return wrong


class GuardedList(list):
    """A list that fails when it is changed, be it for a while."""

    def refuse(self, *args, **kwargs):
        raise AssertionError("a list that was handed in was changed")

    append = clear = extend = insert = pop = remove = reverse = sort = refuse
    __setitem__ = __delitem__ = __iadd__ = __imul__ = refuse


def guarded(values):
    return [GuardedList(v) if isinstance(v, list) else v for v in values]


def copied(values):
    return [list(v) if isinstance(v, list) else v for v in values]


class Calling:
    """For a TestCase: `answers` holds a call to its answer and to all that it must leave alone."""

    def setUp(self):
        self.addTypeEqualityFunc(list, self.same_list)

    def same_list(self, first, second, msg=None):
        """In the place of unittest's own, which takes minutes to show how two long lists differ."""
        if first == second:
            return
        shorter = min(len(first), len(second))
        place = next((k for k in range(shorter) if first[k] != second[k]), shorter)
        told = f"lists of {len(first)} and {len(second)}; from {place} on: "
        self.fail(self._formatMessage(msg, told + f"{first[place:place + 12]} and {second[place:place + 12]}"))

    def answers(self, function, given, wanted):
        printed = io.StringIO()
        with contextlib.redirect_stdout(printed), contextlib.redirect_stderr(printed):
            handed = copied(given)
            first = function(*handed)
            self.assertEqual(first, wanted)
            self.assertIs(type(first), list)
            self.assertEqual({type(n) for n in first}, {int})
            self.assertEqual(handed, given)
            # An answer that is kept somewhere would show what is done to it here.
            first.append(12345)
            first[0] = 54321
            self.assertEqual(handed, given)
            self.assertEqual(function(*handed), wanted)
            self.assertEqual(function(*guarded(given)), wanted)
        self.assertEqual(printed.getvalue(), "")
