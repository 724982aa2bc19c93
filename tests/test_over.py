import unittest

from calling import Calling, GuardedList, wrong_counts, wrong_sizes
from paintsheets.sheets import over


class Laid(Calling, unittest.TestCase):
    def laid(self, w, h, up, low, points):
        self.answers(over, [w, h, up, low], [len(points)] + points)

    def test_ordinary_sheets(self):
        self.laid(3, 2, [1, 0, 2, 0, 0, 3], [4, 5, 0, 0, 6, 7], [1, 5, 2, 0, 6, 3])
        self.laid(2, 3, [1, 0, 2, 0, 0, 3], [4, 5, 0, 0, 6, 7], [1, 5, 2, 0, 6, 3])

    def test_count_stands_ahead(self):
        self.answers(over, [3, 2, [9, 0, 0, 0, 0, 8], [1, 2, 3, 4, 5, 6]], [6, 9, 2, 3, 4, 5, 8])

    def test_upper_goes_before_lower(self):
        self.laid(2, 1, [1, 2], [2, 1], [1, 2])
        self.laid(2, 1, [2, 1], [1, 2], [2, 1])

    def test_clear_above(self):
        self.laid(3, 2, [0] * 6, [4, 5, 0, 255, 6, 7], [4, 5, 0, 255, 6, 7])

    def test_clear_below(self):
        self.laid(3, 2, [4, 5, 0, 255, 6, 7], [0] * 6, [4, 5, 0, 255, 6, 7])

    def test_clear_in_both(self):
        self.laid(3, 2, [0] * 6, [0] * 6, [0] * 6)

    def test_one_point(self):
        for up, low, paint in ((0, 0, 0), (0, 255, 255), (255, 0, 255), (1, 255, 1), (255, 1, 255), (7, 7, 7)):
            self.laid(1, 1, [up], [low], [paint])

    def test_every_paint(self):
        paints = list(range(256))
        self.laid(256, 1, paints, [9] * 256, [9] + paints[1:])
        self.laid(256, 1, [0] * 256, paints, paints)
        self.laid(1, 256, paints, paints[::-1], [255] + paints[1:])

    def test_same_list_above_and_below(self):
        a = GuardedList([0, 1, 255, 0, 7, 7])
        self.assertEqual(over(3, 2, a, a), [6, 0, 1, 255, 0, 7, 7])
        self.assertEqual(over(3, 2, a, a), [6, 0, 1, 255, 0, 7, 7])

    def test_largest_of_all(self):
        up = [n % 2 for n in range(65536)]
        self.assertEqual(over(256, 256, up, [5] * 65536), [65536] + [5, 1] * 32768)


class Refused(Calling, unittest.TestCase):
    def refused(self, w, h, up_points, low_points):
        with self.subTest(w=w, h=h, up=up_points, low=low_points):
            self.answers(over, [w, h, [7] * up_points, [8] * low_points], [-1])

    def test_sizes(self):
        for w, h, points in wrong_sizes():
            self.refused(w, h, points, points)

    def test_points_of_both(self):
        for w, h, points in wrong_counts():
            self.refused(w, h, points, points)

    def test_points_of_up_alone(self):
        for w, h, points in wrong_counts():
            self.refused(w, h, points, w * h)

    def test_points_of_low_alone(self):
        for w, h, points in wrong_counts():
            self.refused(w, h, w * h, points)

    def test_fewer_in_one_and_more_in_the_other(self):
        self.refused(3, 2, 5, 7)
        self.refused(3, 2, 7, 5)
