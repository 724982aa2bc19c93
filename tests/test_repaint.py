import unittest

from calling import Calling, GuardedList, patterned, wrong_counts, wrong_sizes
from paintsheets.sheets import repaint

UNCHANGING = list(range(256))
REVERSED = UNCHANGING[::-1]


def table_with(changes):
    """The table that changes nothing but what is told."""
    return [changes.get(paint, paint) for paint in range(256)]


class Repainted(Calling, unittest.TestCase):
    def repainted(self, w, h, a, table, points):
        self.answers(repaint, [w, h, a, table], [len(points)] + points)

    def test_ordinary_sheets(self):
        table = table_with({1: 10, 2: 20, 3: 1, 200: 255})
        self.repainted(3, 2, [1, 2, 3, 0, 200, 7], table, [10, 20, 1, 0, 255, 7])
        self.repainted(2, 3, [1, 2, 3, 0, 200, 7], table, [10, 20, 1, 0, 255, 7])
        self.repainted(3, 1, [1, 128, 255], REVERSED, [254, 127, 0])

    def test_count_stands_ahead(self):
        self.answers(repaint, [3, 2, [5, 0, 5, 6, 0, 0], table_with({5: 9})], [6, 9, 0, 9, 6, 0, 0])

    def test_once_and_not_again(self):
        self.repainted(4, 1, [1, 2, 3, 4], table_with({1: 2, 2: 3, 3: 1}), [2, 3, 1, 4])

    def test_clear_stays_clear_whatever_number_0_is(self):
        for paint in (1, 7, 255):
            self.repainted(3, 2, [0, 1, 0, 255, 0, 7], table_with({0: paint}), [0, 1, 0, 255, 0, 7])
            self.repainted(2, 2, [0] * 4, [paint] * 256, [0] * 4)
            self.repainted(2, 2, [0, 1, 0, 255], [paint] * 256, [0, paint, 0, paint])
        self.repainted(2, 1, [0, 255], REVERSED, [0, 0])

    def test_paint_made_clear(self):
        self.repainted(3, 2, [5, 6, 0, 5, 255, 1], table_with({5: 0}), [0, 6, 0, 0, 255, 1])
        self.repainted(3, 2, [5, 6, 0, 5, 255, 1], [0] * 256, [0] * 6)
        self.repainted(3, 2, [5, 6, 0, 5, 255, 1], table_with({5: 0, 0: 9}), [0, 6, 0, 0, 255, 1])

    def test_nothing_changed(self):
        self.repainted(3, 2, [5, 6, 0, 5, 255, 1], UNCHANGING, [5, 6, 0, 5, 255, 1])
        self.repainted(17, 31, patterned(17, 31), UNCHANGING, patterned(17, 31))

    def test_second_and_last_of_the_table(self):
        self.repainted(2, 1, [1, 255], table_with({1: 100, 255: 200}), [100, 200])
        self.repainted(2, 1, [2, 254], table_with({1: 100, 255: 200}), [2, 254])

    def test_one_point(self):
        for paint, after in ((0, 0), (1, 254), (254, 1), (255, 0)):
            self.repainted(1, 1, [paint], REVERSED, [after])

    def test_row_of_every_paint(self):
        self.repainted(256, 1, UNCHANGING, REVERSED, [0] + REVERSED[1:])
        self.repainted(1, 256, UNCHANGING, REVERSED, [0] + REVERSED[1:])

    def test_same_list_as_points_and_table(self):
        a = GuardedList([7] + REVERSED[1:])
        self.assertEqual(repaint(256, 1, a, a), [256] + [a[paint] if paint else 0 for paint in a])

    def test_largest_of_all(self):
        a = [n % 256 for n in range(65536)]
        self.assertEqual(repaint(256, 256, a, REVERSED), [65536] + ([0] + REVERSED[1:]) * 256)


class Refused(Calling, unittest.TestCase):
    def refused(self, w, h, points, table):
        with self.subTest(w=w, h=h, points=points, table=len(table)):
            self.answers(repaint, [w, h, [7] * points, table], [-1])

    def test_sizes_and_points(self):
        for w, h, points in wrong_sizes() + wrong_counts():
            self.refused(w, h, points, UNCHANGING)

    def test_table(self):
        for length in (0, 1, 255, 257, 512, 768):
            for w, h in ((1, 1), (3, 2), (256, 1), (1, 255)):
                self.refused(w, h, w * h, [7] * length)

    def test_table_when_it_is_not_needed(self):
        for length in (0, 1, 255, 257, 768):
            self.answers(repaint, [2, 1, [0, 0], [0] * length], [-1])

    def test_table_and_points(self):
        for length in (0, 255, 257, 768):
            for w, h, points in wrong_counts() + [(0, 1, 0), (257, 1, 257), (1, 18446744073709551615, 1)]:
                self.refused(w, h, points, [7] * length)
