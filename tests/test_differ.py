import unittest

from calling import Calling, GuardedList, lists, patterned, wrong_counts, wrong_sizes
from paintsheets.sheets import differ

# Two sheets of the last two sizes have nearly the 6,144 numbers that a call may have in all.
SIZES = ((1, 1), (2, 1), (1, 2), (3, 2), (17, 31), (256, 1), (1, 256), (99, 31), (31, 99))


def other_paint(a, place):
    return a[:place] + [255 - a[place]] + a[place + 1:]


class Differing(Calling, unittest.TestCase):
    def differing(self, w, h, a, b, number):
        with self.subTest(w=w, h=h, number=number):
            self.answers(differ, [w, h, a, b], [number])
            self.answers(differ, [w, h, b, a], [number])

    def test_written_out(self):
        self.differing(3, 2, [1, 2, 3, 4, 5, 6], [1, 2, 3, 4, 9, 6], 4)
        self.differing(2, 3, [1, 2, 3, 4, 5, 6], [1, 2, 3, 4, 9, 6], 4)

    def test_one_point_alone(self):
        for w, h in SIZES:
            a = patterned(w, h)
            for place in (0, w * h // 2, w * h - 1):
                self.differing(w, h, a, other_paint(a, place), place)

    def test_every_place(self):
        for w, h in ((4, 3), (3, 4)):
            for place in range(12):
                self.differing(w, h, [7] * 12, other_paint([7] * 12, place), place)

    def test_least_of_several(self):
        self.differing(3, 2, [1, 2, 3, 4, 5, 6], [1, 9, 3, 9, 5, 9], 1)
        self.differing(3, 2, [1, 2, 3, 4, 5, 6], [6, 5, 4, 3, 2, 1], 0)
        self.differing(3, 2, [0, 0, 0, 0, 9, 9], [0, 0, 0, 0, 0, 0], 4)
        # Point 3 differs by more than point 2, and has a lesser x.
        self.differing(3, 2, [0, 0, 1, 0, 0, 0], [0, 0, 0, 255, 0, 0], 2)

    def test_every_small_sheet(self):
        for w, h in ((3, 1), (1, 3)):
            for a in lists((0, 1, 255), 3):
                for b in lists((0, 1, 255), 3):
                    places = [k for k in range(3) if a[k] != b[k]]
                    self.answers(differ, [w, h, a, b], places[:1] if places else [-3])

    def test_clear_and_not(self):
        self.differing(1, 1, [0], [1], 0)
        self.differing(1, 1, [0], [255], 0)
        self.differing(2, 2, [7, 7, 7, 255], [7, 7, 7, 0], 3)
        self.differing(2, 2, [0, 0, 1, 0], [0, 0, 0, 0], 2)

    def test_neighbouring_paints(self):
        for paint in range(255):
            self.differing(2, 1, [7, paint], [7, paint + 1], 1)

    def test_largest_of_all(self):
        a = [n % 251 for n in range(65536)]
        self.differing(256, 256, a, other_paint(a, 65535), 65535)
        self.differing(256, 256, a, other_paint(other_paint(a, 65535), 256), 256)


class Alike(Calling, unittest.TestCase):
    def test_lists_of_their_own(self):
        for w, h in SIZES:
            for a in (patterned(w, h), [0] * (w * h), [255] * (w * h)):
                with self.subTest(w=w, h=h):
                    self.answers(differ, [w, h, a, list(a)], [-3])

    def test_one_and_the_same_list(self):
        for w, h in SIZES:
            for a in (GuardedList(patterned(w, h)), GuardedList([0] * (w * h))):
                self.assertEqual(differ(w, h, a, a), [-3])
                self.assertEqual(differ(w, h, a, a), [-3])


class Refused(Calling, unittest.TestCase):
    def refused(self, w, h, a, b):
        with self.subTest(w=w, h=h, a=len(a), b=len(b)):
            self.answers(differ, [w, h, a, b], [-1])

    def test_sizes(self):
        for w, h, points in wrong_sizes():
            self.refused(w, h, [7] * points, [7] * points)
            self.refused(w, h, [7] * points, [8] * points)

    def test_points_of_both(self):
        for w, h, points in wrong_counts():
            self.refused(w, h, [7] * points, [7] * points)
            self.refused(w, h, [7] * points, [8] * points)
            self.refused(w, h, [0] * points, [0] * points)

    def test_points_of_one_alone(self):
        for w, h, points in wrong_counts():
            for paint in (7, 8):
                self.refused(w, h, [7] * points, [paint] * (w * h))
                self.refused(w, h, [7] * (w * h), [paint] * points)

    def test_one_is_the_beginning_of_the_other(self):
        for w, h in SIZES:
            a = patterned(w, h)
            for shorter, longer in ((a[:-1], a), (a, a + [0]), (a, a + [7]), ([], a), (a[:-1], a + [0])):
                self.refused(w, h, shorter, longer)
                self.refused(w, h, longer, shorter)

    def test_one_and_the_same_list(self):
        for a in ([], [7] * 5, [7] * 7):
            self.assertEqual(differ(3, 2, a, a), [-1])
