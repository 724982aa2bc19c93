"""What the tests share: the bytes of sheets, and calls that watch what the program does beside answering."""

import contextlib
import io

MARK = [0x43, 0x45, 0x4C, 0x31]


def head(w, h):
    return MARK + [w % 256, w // 256, h % 256, h // 256]


def sheet_bytes(w, h, *rows):
    """The head, then the rows, each a list of (points, paint)."""
    b = head(w, h)
    for row in rows:
        for points, paint in row:
            b = b + [points - 1, paint]
    return b


class GuardedList(list):
    """A list that fails when it is changed, be it for a while."""

    def refuse(self, *args, **kwargs):
        raise AssertionError("a list that was handed in was changed")

    append = clear = extend = insert = pop = remove = reverse = sort = refuse
    __setitem__ = __delitem__ = __iadd__ = __imul__ = refuse


def guarded(values):
    return [GuardedList(v) if isinstance(v, list) else v for v in values]


def copied(values):
    return [list(v) if isinstance(v, list) else v for v in values]


class Calling:
    """For a TestCase: `answers` holds a call to its answer and to all that it must leave alone."""

    def answers(self, function, given, wanted):
        printed = io.StringIO()
        with contextlib.redirect_stdout(printed), contextlib.redirect_stderr(printed):
            handed = copied(given)
            first = function(*handed)
            self.assertEqual(first, wanted)
            self.assertIs(type(first), list)
            self.assertEqual({type(n) for n in first}, {int})
            self.assertEqual(handed, given)
            # An answer that is kept somewhere would show what is done to it here.
            first.append(12345)
            first[0] = 54321
            self.assertEqual(handed, given)
            self.assertEqual(function(*handed), wanted)
            self.assertEqual(function(*guarded(given)), wanted)
        self.assertEqual(printed.getvalue(), "")
