import unittest

from calling import MARK, Calling, head, sheet_bytes
from paintsheets.sheets import open_of


class Opened(Calling, unittest.TestCase):
    def opened(self, b, points):
        self.answers(open_of, [b], [len(points)] + points)

    def test_one_point(self):
        self.answers(open_of, [sheet_bytes(1, 1, [(1, 0)])], [1, 0])
        self.answers(open_of, [sheet_bytes(1, 1, [(1, 255)])], [1, 255])

    def test_bytes_written_out(self):
        b = [67, 69, 76, 49, 3, 0, 2, 0, 0, 7, 1, 9, 2, 0]
        self.answers(open_of, [b], [6, 7, 9, 9, 0, 0, 0])

    def test_rows_of_several_runs(self):
        b = sheet_bytes(6, 2, [(1, 1), (2, 2), (3, 1)], [(4, 0), (1, 255), (1, 0)])
        self.opened(b, [1, 2, 2, 1, 1, 1, 0, 0, 0, 0, 255, 0])

    def test_one_paint_over_a_rows_end(self):
        self.opened(sheet_bytes(3, 2, [(1, 1), (2, 4)], [(1, 4), (2, 1)]), [1, 4, 4, 4, 1, 1])

    def test_widest_rows(self):
        self.opened(sheet_bytes(256, 1, [(256, 5)]), [5] * 256)
        self.opened(sheet_bytes(256, 1, [(1, x) for x in range(256)]), list(range(256)))

    def test_highest(self):
        self.opened(sheet_bytes(1, 256, *[[(1, y)] for y in range(256)]), list(range(256)))

    def test_largest_of_all(self):
        self.opened(sheet_bytes(256, 256, *[[(256, y)] for y in range(256)]), [n // 256 for n in range(65536)])


class Refused(Calling, unittest.TestCase):
    def test_each_kind_of_fault(self):
        for b in (
            [],
            head(1, 1)[:7],
            [66] + sheet_bytes(1, 1, [(1, 7)])[1:],
            MARK + [0, 0, 1, 0, 0, 7],
            MARK + [1, 1, 1, 0, 0, 7],
            MARK + [1, 0, 0, 0, 0, 7],
            MARK + [1, 0, 1, 1, 0, 7],
            head(1, 1),
            head(1, 1) + [0],
            sheet_bytes(2, 2, [(2, 7)]),
            sheet_bytes(2, 2, [(2, 7)], [(1, 7)]),
            head(1, 1) + [1, 7],
            sheet_bytes(3, 1, [(2, 1), (2, 2)]),
            sheet_bytes(2, 1, [(1, 7), (1, 7)]),
            sheet_bytes(2, 2, [(2, 7)], [(1, 7), (1, 7)]),
            sheet_bytes(1, 1, [(1, 7)]) + [0],
            sheet_bytes(1, 1, [(1, 7)]) + [0, 8],
        ):
            with self.subTest(b=b):
                self.answers(open_of, [b], [-6])

    def test_too_many_bytes(self):
        self.answers(open_of, [head(1, 1) + [0] * 131073], [-2])
        self.answers(open_of, [head(1, 1) + [0] * 131072], [-6])
