import unittest

from calling import VERY_LARGE, Calling, patterned, wrong_counts, wrong_sizes
from paintsheets.sheets import count


class Counted(Calling, unittest.TestCase):
    def counted(self, w, h, p, a, points):
        with self.subTest(w=w, h=h, p=p):
            self.answers(count, [w, h, p, a], [points])

    def test_ordinary_sheets(self):
        a = [7, 0, 255, 7, 0, 7, 1, 0, 0, 0, 254, 255]
        for w, h in ((4, 3), (3, 4), (12, 1), (1, 12)):
            for p, points in ((0, 5), (1, 1), (7, 3), (254, 1), (255, 2)):
                self.counted(w, h, p, a, points)

    def test_clear_ones(self):
        self.counted(3, 2, 0, [0, 1, 0, 2, 0, 255], 3)
        self.counted(3, 2, 0, [0] * 6, 6)
        self.counted(3, 2, 0, [1, 2, 3, 4, 5, 255], 0)

    def test_last_paint(self):
        self.counted(3, 2, 255, [0, 255, 0, 254, 255, 1], 2)
        self.counted(3, 2, 255, [255] * 6, 6)
        self.counted(3, 2, 255, [254] * 6, 0)

    def test_paint_that_no_point_has(self):
        for p in (0, 1, 6, 8, 255):
            self.counted(3, 2, p, [7] * 6, 0)

    def test_paint_that_all_points_have(self):
        for p in (0, 1, 7, 255):
            for w, h in ((1, 1), (3, 2), (256, 1), (1, 256), (256, 24)):
                self.counted(w, h, p, [p] * (w * h), w * h)

    def test_one_point(self):
        for paint in (0, 1, 255):
            for p in (0, 1, 2, 254, 255):
                self.counted(1, 1, p, [paint], 1 if p == paint else 0)

    def test_row_of_every_paint(self):
        for p in range(256):
            self.counted(256, 1, p, list(range(256)), 1)

    def test_all_paints_counts_come_to_all_points(self):
        a = patterned(64, 64)
        counts = [count(64, 64, p, a) for p in range(256)]
        self.assertEqual(sum(answer[0] for answer in counts), 4096)

    def test_largest_of_all(self):
        self.counted(256, 256, 7, [7] * 65536, 65536)


class Refused(Calling, unittest.TestCase):
    def refused(self, w, h, p, a):
        with self.subTest(w=w, h=h, p=p, points=len(a)):
            self.answers(count, [w, h, p, a], [-1])

    def test_sizes_and_points(self):
        for w, h, points in wrong_sizes() + wrong_counts():
            for p in (0, 7, 255):
                self.refused(w, h, p, [7] * points)

    def test_paint(self):
        for p in (256, 257, 512) + VERY_LARGE:
            for w, h in ((1, 1), (3, 2), (256, 1), (1, 256)):
                self.refused(w, h, p, [0] * (w * h))
                self.refused(w, h, p, [7] * (w * h))

    def test_paint_and_points(self):
        for p in (256,) + VERY_LARGE:
            for w, h, points in wrong_counts() + [(0, 1, 0), (257, 1, 257), (1, 18446744073709551615, 1)]:
                self.refused(w, h, p, [7] * points)
