"""A1: bytes and sheets are one to one; bytes that are none have one first fault."""

import unittest

from calling import Calling, head, lists, patterned, sheet_bytes
from paintsheets.sheets import judge, keep, open_of, size


class BothWays(Calling, unittest.TestCase):
    def goes_both_ways(self, w, h, a):
        kept = keep(w, h, a)
        b = kept[1:]
        self.assertEqual(kept[0], len(b))
        self.answers(judge, [b], [0])
        self.answers(size, [b], [w, h])
        self.answers(open_of, [b], [w * h] + a)
        self.answers(keep, [w, h, a], [len(b)] + b)

    def test_every_small_sheet(self):
        for w, h in ((1, 1), (2, 1), (3, 1), (1, 2), (1, 3), (2, 2), (3, 2), (2, 3)):
            for a in lists((0, 1, 255), w * h):
                self.goes_both_ways(w, h, a)

    def test_larger_sheets(self):
        for w, h in ((1, 256), (256, 1), (256, 24), (24, 256), (17, 31), (255, 2), (64, 64)):
            for a in (patterned(w, h), [0] * (w * h), [255] * (w * h), [n % 2 for n in range(w * h)]):
                with self.subTest(w=w, h=h):
                    self.goes_both_ways(w, h, a)

    def test_from_bytes(self):
        for b in (
            sheet_bytes(1, 1, [(1, 0)]),
            sheet_bytes(6, 2, [(1, 1), (2, 2), (3, 1)], [(4, 0), (1, 255), (1, 0)]),
            sheet_bytes(3, 2, [(1, 1), (2, 4)], [(1, 4), (2, 1)]),
            sheet_bytes(256, 2, [(256, 5)], [(1, x) for x in range(256)]),
        ):
            w, h = size(b)
            opened = open_of(b)
            self.assertEqual(opened[0], w * h)
            self.answers(keep, [w, h, opened[1:]], [len(b)] + b)

    def test_no_other_bytes_are_sheets(self):
        for w, h in ((1, 1), (2, 1), (1, 2), (2, 2)):
            sheets = [keep(w, h, a)[1:] for a in lists((0, 1), w * h)]
            tails = [t for length in range(7) for t in lists((0, 1, 2), length)]
            for tail in tails:
                b = head(w, h) + tail
                paints = tail[1::2]
                if 2 in paints:
                    continue
                if b in sheets:
                    self.assertEqual(judge(b), [0])
                else:
                    self.assertEqual(judge(b)[0], -6)
                    self.assertEqual(len(judge(b)), 3)
                    self.assertEqual(size(b), [-6])
                    self.assertEqual(open_of(b), [-6])
