"""A2: a over b, over c, is a over (b over c); what's clear everywhere changes nothing; a over itself is a.

A3: moved sheets over one another are the sheet over the other moved; moved by nothing is the same; what's moved back
is as it was, but for what went over the edge.
"""

import itertools
import unittest

from calling import Calling, lists, patterned
from paintsheets.sheets import move, over

SIZES = ((1, 1), (2, 1), (1, 2), (3, 2), (2, 3), (17, 31), (256, 1), (1, 256), (256, 8))


def several(w, h):
    """Sheets of one size with paint and clear points at places of their own."""
    points = range(w * h)
    return [
        patterned(w, h),
        [n % 256 for n in points],
        [255 * (n % 2) for n in points],
        [(n + 1) % 3 for n in points],
        [n // 2 % 4 * 60 for n in points],
        [0] * (w * h),
        [255] * (w * h),
    ]


class GroupsCase(Calling, unittest.TestCase):
    def points(self, answered):
        self.assertEqual(answered[0], len(answered) - 1)
        return answered[1:]

    def over(self, w, h, up, low):
        return self.points(over(w, h, up, low))

    def move(self, w, h, by, a):
        return self.points(move(w, h, by[0], by[1], a))


class LaidInGroups(GroupsCase):
    def same_in_both_groups(self, w, h, a, b, c):
        first_two = self.over(w, h, self.over(w, h, a, b), c)
        last_two = self.over(w, h, a, self.over(w, h, b, c))
        self.assertEqual(first_two, last_two)
        return first_two

    def test_every_small_sheet(self):
        for w, h in ((1, 1), (2, 1), (1, 2)):
            for a, b, c in itertools.product(lists((0, 1, 2, 255), w * h), repeat=3):
                topmost = [next((p for p in (i, j, k) if p != 0), 0) for i, j, k in zip(a, b, c)]
                self.assertEqual(self.same_in_both_groups(w, h, a, b, c), topmost)

    def test_larger_sheets(self):
        for w, h in SIZES:
            for a, b, c in itertools.permutations(several(w, h), 3):
                self.same_in_both_groups(w, h, a, b, c)

    def test_clear_everywhere_changes_nothing(self):
        for w, h in SIZES:
            clear = [0] * (w * h)
            for a in several(w, h):
                self.assertEqual(self.over(w, h, clear, a), a)
                self.assertEqual(self.over(w, h, a, clear), a)

    def test_over_itself(self):
        for w, h in SIZES:
            for a in several(w, h):
                self.assertEqual(self.over(w, h, a, a), a)
                self.assertEqual(self.over(w, h, a, list(a)), a)


class MovedOverOneAnother(GroupsCase):
    def ways(self, w, h):
        return [
            (0, 0), (1, 0), (-1, 0), (0, 1), (0, -1), (2, -1), (-1, 2), (w - 1, 1 - h), (1 - w, h - 1), (w, 0), (0, -h),
            (w + 1, h + 1), (-9223372036854775807, 0), (0, 9223372036854775807),
        ]

    def test_moved_sheets_over_one_another(self):
        for w, h in SIZES:
            for up, low in itertools.permutations(several(w, h), 2):
                laid = self.over(w, h, up, low)
                for by in self.ways(w, h):
                    moved_first = self.over(w, h, self.move(w, h, by, up), self.move(w, h, by, low))
                    self.assertEqual(moved_first, self.move(w, h, by, laid))

    def test_by_nothing(self):
        for w, h in SIZES:
            for a in several(w, h):
                self.assertEqual(self.move(w, h, (0, 0), a), a)

    def test_moved_back(self):
        for w, h in SIZES:
            for a in several(w, h):
                for dx, dy in self.ways(w, h):
                    back = self.move(w, h, (-dx, -dy), self.move(w, h, (dx, dy), a))
                    stayed = [0 <= x + dx < w and 0 <= y + dy < h for y in range(h) for x in range(w)]
                    self.assertEqual(back, [p if s else 0 for p, s in zip(a, stayed)])
