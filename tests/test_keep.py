import unittest

from calling import MARK, Calling, sheet_bytes, wrong_counts, wrong_sizes
from paintsheets.sheets import keep


class Kept(Calling, unittest.TestCase):
    def kept(self, w, h, a, b):
        self.answers(keep, [w, h, a], [len(b)] + b)

    def test_one_point(self):
        self.kept(1, 1, [0], MARK + [1, 0, 1, 0, 0, 0])
        self.kept(1, 1, [255], MARK + [1, 0, 1, 0, 0, 255])

    def test_count_stands_ahead(self):
        self.answers(keep, [3, 2, [7, 9, 9, 0, 0, 0]], [14, 67, 69, 76, 49, 3, 0, 2, 0, 0, 7, 1, 9, 2, 0])

    def test_rows_of_several_runs(self):
        b = sheet_bytes(6, 2, [(1, 1), (2, 2), (3, 1)], [(4, 0), (1, 255), (1, 0)])
        self.kept(6, 2, [1, 2, 2, 1, 1, 1, 0, 0, 0, 0, 255, 0], b)

    def test_width_is_not_height(self):
        a = [1, 1, 2, 2, 2, 1]
        self.kept(3, 2, a, sheet_bytes(3, 2, [(2, 1), (1, 2)], [(2, 2), (1, 1)]))
        self.kept(2, 3, a, sheet_bytes(2, 3, [(2, 1)], [(2, 2)], [(1, 2), (1, 1)]))

    def test_run_ends_with_its_row(self):
        self.kept(3, 2, [1, 4, 4, 4, 1, 1], sheet_bytes(3, 2, [(1, 1), (2, 4)], [(1, 4), (2, 1)]))
        self.kept(2, 3, [0] * 6, sheet_bytes(2, 3, [(2, 0)], [(2, 0)], [(2, 0)]))

    def test_widest_row_of_one_paint(self):
        self.kept(256, 1, [5] * 256, MARK + [0, 1, 1, 0, 255, 5])
        self.kept(255, 1, [5] * 255, MARK + [255, 0, 1, 0, 254, 5])

    def test_every_point_differs_from_the_one_before(self):
        self.kept(256, 1, list(range(256)), sheet_bytes(256, 1, [(1, x) for x in range(256)]))
        self.kept(5, 1, [0, 255, 0, 255, 0], sheet_bytes(5, 1, [(1, 0), (1, 255), (1, 0), (1, 255), (1, 0)]))

    def test_highest(self):
        self.kept(1, 256, [9] * 256, MARK + [1, 0, 0, 1] + [0, 9] * 256)

    def test_largest_of_all(self):
        a = [(n + n // 256) % 2 for n in range(65536)]
        b = keep(256, 256, a)
        self.assertEqual(len(b), 131081)
        self.assertEqual(b[:11], [131080] + MARK + [0, 1, 0, 1, 0, 0])


class Refused(Calling, unittest.TestCase):
    def test_sizes_and_points(self):
        for w, h, points in wrong_sizes() + wrong_counts():
            with self.subTest(w=w, h=h, points=points):
                self.answers(keep, [w, h, [7] * points], [-1])
