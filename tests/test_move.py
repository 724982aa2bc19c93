import unittest

from calling import Calling, patterned, wrong_counts, wrong_sizes
from paintsheets.sheets import move

FARTHEST = (-9223372036854775808, 9223372036854775807)
SHEET = [
    1, 2, 3, 4,
    5, 6, 7, 8,
    9, 10, 11, 255,
]


def carried(w, h, dx, dy, a):
    """Each point carried to where it goes: the other way round than the document tells it."""
    points = [0] * (w * h)
    for y in range(h):
        for x in range(w):
            if 0 <= x + dx < w and 0 <= y + dy < h:
                points[(y + dy) * w + x + dx] = a[y * w + x]
    return points


class MoveCase(Calling, unittest.TestCase):
    def moved(self, w, h, dx, dy, a, points):
        with self.subTest(w=w, h=h, dx=dx, dy=dy):
            self.answers(move, [w, h, dx, dy, a], [len(points)] + points)


class WrittenOut(MoveCase):
    def test_by_nothing(self):
        self.moved(4, 3, 0, 0, SHEET, SHEET)
        self.moved(3, 4, 0, 0, SHEET, SHEET)

    def test_count_stands_ahead(self):
        self.answers(move, [3, 1, 1, 0, [7, 8, 9]], [3, 0, 7, 8])

    def test_to_the_right(self):
        self.moved(4, 3, 1, 0, SHEET, [0, 1, 2, 3, 0, 5, 6, 7, 0, 9, 10, 11])

    def test_to_the_left(self):
        self.moved(4, 3, -1, 0, SHEET, [2, 3, 4, 0, 6, 7, 8, 0, 10, 11, 255, 0])

    def test_down(self):
        self.moved(4, 3, 0, 1, SHEET, [0, 0, 0, 0, 1, 2, 3, 4, 5, 6, 7, 8])

    def test_up(self):
        self.moved(4, 3, 0, -1, SHEET, [5, 6, 7, 8, 9, 10, 11, 255, 0, 0, 0, 0])

    def test_slantwise(self):
        self.moved(4, 3, 1, 1, SHEET, [0, 0, 0, 0, 0, 1, 2, 3, 0, 5, 6, 7])
        self.moved(4, 3, -1, -1, SHEET, [6, 7, 8, 0, 10, 11, 255, 0, 0, 0, 0, 0])
        self.moved(4, 3, 1, -1, SHEET, [0, 5, 6, 7, 0, 9, 10, 11, 0, 0, 0, 0])
        self.moved(4, 3, -1, 1, SHEET, [0, 0, 0, 0, 2, 3, 4, 0, 6, 7, 8, 0])

    def test_same_points_in_another_width(self):
        self.moved(3, 4, 1, 0, SHEET, [0, 1, 2, 0, 4, 5, 0, 7, 8, 0, 10, 11])
        self.moved(3, 4, 0, 1, SHEET, [0, 0, 0, 1, 2, 3, 4, 5, 6, 7, 8, 9])
        self.moved(12, 1, 1, 0, SHEET, [0] + SHEET[:11])
        self.moved(1, 12, 0, 1, SHEET, [0] + SHEET[:11])
        self.moved(12, 1, 0, 1, SHEET, [0] * 12)
        self.moved(1, 12, 1, 0, SHEET, [0] * 12)

    def test_over_the_side_not_into_another_row(self):
        self.moved(3, 2, 1, 0, [0, 0, 7, 0, 0, 0], [0] * 6)
        self.moved(3, 2, -1, 0, [0, 0, 0, 7, 0, 0], [0] * 6)
        self.moved(3, 2, 3, 0, [7, 7, 7, 0, 0, 0], [0] * 6)
        self.moved(3, 2, -3, 0, [0, 0, 0, 7, 7, 7], [0] * 6)
        self.moved(3, 2, -3, 1, [7] * 6, [0] * 6)

    def test_over_the_side_by_width_less_1(self):
        self.moved(4, 3, 3, 0, SHEET, [0, 0, 0, 1, 0, 0, 0, 5, 0, 0, 0, 9])
        self.moved(4, 3, -3, 0, SHEET, [4, 0, 0, 0, 8, 0, 0, 0, 255, 0, 0, 0])

    def test_up_and_down_by_height_less_1(self):
        self.moved(4, 3, 0, 2, SHEET, [0, 0, 0, 0, 0, 0, 0, 0, 1, 2, 3, 4])
        self.moved(4, 3, 0, -2, SHEET, [9, 10, 11, 255, 0, 0, 0, 0, 0, 0, 0, 0])

    def test_by_width_or_height_and_more(self):
        for dx in (4, 5, -4, -5):
            self.moved(4, 3, dx, 0, SHEET, [0] * 12)
        for dy in (3, 4, -3, -4):
            self.moved(4, 3, 0, dy, SHEET, [0] * 12)

    def test_farthest(self):
        for far in FARTHEST:
            for near in (0, 1, -1) + FARTHEST:
                self.moved(4, 3, far, near, SHEET, [0] * 12)
                self.moved(4, 3, near, far, SHEET, [0] * 12)

    def test_one_point(self):
        self.moved(1, 1, 0, 0, [255], [255])
        for dx, dy in ((1, 0), (-1, 0), (0, 1), (0, -1), (1, 1), (-1, 1)):
            self.moved(1, 1, dx, dy, [255], [0])


class AsCarried(MoveCase):
    def test_near_and_far(self):
        for w, h in ((1, 1), (2, 1), (1, 2), (4, 3), (3, 4), (2, 5)):
            a = list(range(1, w * h + 1))
            for dx in range(-w - 1, w + 2):
                for dy in range(-h - 1, h + 2):
                    self.moved(w, h, dx, dy, a, carried(w, h, dx, dy, a))

    def test_large_sheets(self):
        for w, h in ((256, 1), (1, 256), (256, 24), (24, 256)):
            a = patterned(w, h)
            for dx, dy in ((0, 0), (1, 0), (0, 1), (w - 1, 0), (0, h - 1), (1 - w, 1 - h), (-w, 0), (0, -h), (7, -5)):
                self.moved(w, h, dx, dy, a, carried(w, h, dx, dy, a))

    def test_largest_of_all(self):
        a = [n % 251 for n in range(65536)]
        self.assertEqual(move(256, 256, 100, -99, a), [65536] + carried(256, 256, 100, -99, a))


class Refused(Calling, unittest.TestCase):
    def test_sizes_and_points(self):
        for w, h, points in wrong_sizes() + wrong_counts():
            for dx, dy in ((0, 0), (1, -1), FARTHEST):
                with self.subTest(w=w, h=h, points=points, dx=dx, dy=dy):
                    self.answers(move, [w, h, dx, dy, [7] * points], [-1])
