import unittest

from calling import Calling, patterned, wrong_counts, wrong_sizes
from paintsheets.sheets import box

SIZES = ((1, 1), (2, 1), (1, 2), (5, 3), (3, 5), (17, 31), (256, 1), (1, 256))


def with_points(w, h, places, paint=7):
    """The sheet that has the paint at the places (x, y) alone."""
    return [paint if (x, y) in places else 0 for y in range(h) for x in range(w)]


class Boxed(Calling, unittest.TestCase):
    def boxed(self, w, h, a, corners):
        with self.subTest(w=w, h=h):
            self.answers(box, [w, h, a], corners)

    def test_written_out(self):
        self.boxed(4, 3, [0, 0, 0, 0, 0, 7, 0, 0, 0, 0, 9, 0], [1, 1, 2, 2])
        self.boxed(3, 4, [0, 0, 0, 0, 0, 7, 0, 0, 0, 0, 9, 0], [1, 1, 2, 3])

    def test_one_point_anywhere(self):
        for w, h in ((5, 3), (3, 5), (2, 2)):
            for x in range(w):
                for y in range(h):
                    for paint in (1, 7, 255):
                        self.boxed(w, h, with_points(w, h, [(x, y)], paint), [x, y, x, y])

    def test_one_point_in_each_corner(self):
        for w, h in SIZES:
            for x in (0, w - 1):
                for y in (0, h - 1):
                    self.boxed(w, h, with_points(w, h, [(x, y)]), [x, y, x, y])

    def test_two_points_anywhere(self):
        for w, h in ((4, 3), (3, 4)):
            places = [(x, y) for x in range(w) for y in range(h)]
            for i, j in places:
                for k, m in places:
                    corners = [min(i, k), min(j, m), max(i, k), max(j, m)]
                    self.boxed(w, h, with_points(w, h, [(i, j), (k, m)]), corners)

    def test_least_and_greatest_in_rows_of_their_own(self):
        self.boxed(6, 5, with_points(6, 5, [(2, 0), (1, 3), (5, 2), (3, 4)]), [1, 0, 5, 4])
        self.boxed(5, 6, with_points(5, 6, [(3, 1), (1, 3), (4, 2), (2, 4)]), [1, 1, 4, 4])
        self.boxed(6, 5, with_points(6, 5, [(4, 1), (3, 2), (2, 3)]), [2, 1, 4, 3])

    def test_over_a_rows_end(self):
        self.boxed(5, 3, with_points(5, 3, [(4, 0), (0, 1)]), [0, 0, 4, 1])
        self.boxed(3, 5, with_points(3, 5, [(2, 2), (0, 3)]), [0, 2, 2, 3])

    def test_clear_points_within(self):
        self.boxed(5, 4, with_points(5, 4, [(1, 1), (3, 1), (1, 3), (3, 3)]), [1, 1, 3, 3])

    def test_no_point_clear(self):
        for w, h in SIZES:
            for paint in (1, 255):
                self.boxed(w, h, [paint] * (w * h), [0, 0, w - 1, h - 1])

    def test_row_and_column(self):
        for n in (0, 1, 128, 254, 255):
            self.boxed(256, 1, with_points(256, 1, [(n, 0)]), [n, 0, n, 0])
            self.boxed(1, 256, with_points(1, 256, [(0, n)]), [0, n, 0, n])
        self.boxed(256, 1, with_points(256, 1, [(3, 0), (200, 0)]), [3, 0, 200, 0])
        self.boxed(1, 256, with_points(1, 256, [(0, 3), (0, 200)]), [0, 3, 0, 200])

    def test_large_sheets(self):
        self.boxed(256, 24, patterned(256, 24), [0, 0, 255, 23])
        self.boxed(256, 23, with_points(256, 23, [(200, 3), (17, 20)], 255), [17, 3, 200, 20])
        self.boxed(23, 256, with_points(23, 256, [(3, 200), (20, 17)], 1), [3, 17, 20, 200])
        self.boxed(256, 256, with_points(256, 256, [(255, 1), (254, 255)]), [254, 1, 255, 255])


class AllClear(Calling, unittest.TestCase):
    def test_every_size(self):
        for w, h in SIZES + ((256, 24), (24, 256), (256, 256)):
            with self.subTest(w=w, h=h):
                self.answers(box, [w, h, [0] * (w * h)], [-3])


class Refused(Calling, unittest.TestCase):
    def test_sizes_and_points(self):
        for w, h, points in wrong_sizes() + wrong_counts():
            for paint in (7, 0):
                with self.subTest(w=w, h=h, points=points, paint=paint):
                    self.answers(box, [w, h, [paint] * points], [-1])
