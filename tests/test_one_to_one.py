"""A1: bytes and sheets are one to one; bytes that are none have one first fault."""

import unittest

from calling import MARK, Calling, head, lists, patterned, sheet_bytes
from paintsheets.sheets import judge, keep, open_of, size

SHEETS = (
    sheet_bytes(1, 1, [(1, 7)]),
    sheet_bytes(2, 3, [(2, 0)], [(1, 255), (1, 0)], [(2, 0)]),
    sheet_bytes(4, 2, [(1, 1), (2, 2), (1, 1)], [(3, 1), (1, 2)]),
    sheet_bytes(256, 2, [(256, 5)], [(255, 5), (1, 6)]),
    sheet_bytes(255, 1, [(100, 8), (155, 9)]),
    sheet_bytes(1, 5, [(1, 3)], [(1, 3)], [(1, 0)], [(1, 1)], [(1, 1)]),
)


def fault_of(b):
    """The first fault as the document tells it, found by counting the points of all rows through."""
    if len(b) < 8 or b[:4] != MARK:
        return [1, 0]
    w, h = b[4] + 256 * b[5], b[6] + 256 * b[7]
    if w not in range(1, 257):
        return [2, 4]
    if h not in range(1, 257):
        return [2, 6]
    place, points = 8, 0
    while points < w * h:
        if place + 2 > len(b):
            return [3, len(b)]
        if points % w + b[place] + 1 > w:
            return [4, place]
        if points % w > 0 and b[place + 1] == b[place - 1]:
            return [5, place]
        points += b[place] + 1
        place += 2
    return [6, place] if place < len(b) else None


def near(b):
    """Bytes that are nearly b: one of them another, left out, twice, or behind the next; b's beginnings; b and more."""
    found = []
    for k in range(len(b)):
        found += [b[:k] + [n] + b[k + 1:] for n in range(256)]
        found += [b[:k], b[:k] + b[k + 1:], b[:k + 1] + b[k:], b[:k] + b[k:k + 2][::-1] + b[k + 2:]]
    return found + [b + more for more in ([0], [255], [0, 0], [0, 1, 2], b, b[8:])]


class BothWays(Calling, unittest.TestCase):
    def goes_both_ways(self, w, h, a):
        kept = keep(w, h, a)
        b = kept[1:]
        self.assertEqual(kept[0], len(b))
        self.answers(judge, [b], [0])
        self.answers(size, [b], [w, h])
        self.answers(open_of, [b], [w * h] + a)
        self.answers(keep, [w, h, a], [len(b)] + b)

    def test_every_small_sheet(self):
        for w, h in ((1, 1), (2, 1), (3, 1), (1, 2), (1, 3), (2, 2), (3, 2), (2, 3)):
            for a in lists((0, 1, 255), w * h):
                self.goes_both_ways(w, h, a)

    def test_larger_sheets(self):
        for w, h in ((1, 256), (256, 1), (256, 24), (24, 256), (17, 31), (255, 2), (64, 64)):
            for a in (patterned(w, h), [0] * (w * h), [255] * (w * h), [n % 2 for n in range(w * h)]):
                with self.subTest(w=w, h=h):
                    self.goes_both_ways(w, h, a)

    def test_from_bytes(self):
        for b in (
            sheet_bytes(1, 1, [(1, 0)]),
            sheet_bytes(6, 2, [(1, 1), (2, 2), (3, 1)], [(4, 0), (1, 255), (1, 0)]),
            sheet_bytes(3, 2, [(1, 1), (2, 4)], [(1, 4), (2, 1)]),
            sheet_bytes(256, 2, [(256, 5)], [(1, x) for x in range(256)]),
        ):
            w, h = size(b)
            opened = open_of(b)
            self.assertEqual(opened[0], w * h)
            self.answers(keep, [w, h, opened[1:]], [len(b)] + b)

    def test_no_other_bytes_are_sheets(self):
        for w, h in ((1, 1), (2, 1), (1, 2), (2, 2)):
            sheets = [keep(w, h, a)[1:] for a in lists((0, 1), w * h)]
            tails = [t for length in range(7) for t in lists((0, 1, 2), length)]
            for tail in tails:
                b = head(w, h) + tail
                paints = tail[1::2]
                if 2 in paints:
                    continue
                if b in sheets:
                    self.assertEqual(judge(b), [0])
                else:
                    self.assertEqual(judge(b)[0], -6)
                    self.assertEqual(len(judge(b)), 3)
                    self.assertEqual(size(b), [-6])
                    self.assertEqual(open_of(b), [-6])


class NearSheets(Calling, unittest.TestCase):
    def test_each_is_a_sheet_or_has_the_first_fault(self):
        for sheet in SHEETS:
            for b in near(sheet):
                fault = fault_of(b)
                if fault is None:
                    self.assertEqual(judge(b), [0], b)
                    w, h = size(b)
                    opened = open_of(b)
                    self.assertEqual(opened[0], w * h, b)
                    self.assertEqual(keep(w, h, opened[1:]), [len(b)] + b)
                else:
                    self.assertEqual(judge(b), [-6] + fault, b)
                    self.assertEqual(size(b), [-6], b)
                    self.assertEqual(open_of(b), [-6], b)

    def test_all_kinds_and_sheets_are_among_them(self):
        faults = [fault_of(b) for sheet in SHEETS for b in near(sheet)]
        self.assertEqual({fault[0] if fault else 0 for fault in faults}, set(range(7)))
