import unittest

from calling import MARK, Calling, head, sheet_bytes
from paintsheets.sheets import size


class Sizes(Calling, unittest.TestCase):
    def test_of_sheets(self):
        for w, h in ((1, 1), (1, 2), (2, 1), (3, 5), (255, 1), (256, 1), (1, 255), (1, 256), (256, 256)):
            with self.subTest(w=w, h=h):
                self.answers(size, [sheet_bytes(w, h, *[[(w, 7)]] * h)], [w, h])

    def test_lower_byte_first(self):
        self.answers(size, [MARK + [0, 1, 1, 0, 255, 7]], [256, 1])
        self.answers(size, [MARK + [1, 0, 0, 1] + [0, 7] * 256], [1, 256])

    def test_no_sheets_bytes(self):
        for b in (
            [],
            head(1, 1)[:7],
            [0] + sheet_bytes(1, 1, [(1, 7)])[1:],
            head(0, 1),
            head(257, 1),
            head(1, 0),
            head(1, 257),
            head(1, 1),
            head(1, 1) + [0],
            head(1, 1) + [1, 7],
            sheet_bytes(2, 1, [(1, 7), (1, 7)]),
            sheet_bytes(1, 1, [(1, 7)]) + [0],
        ):
            with self.subTest(b=b):
                self.answers(size, [b], [-6])

    def test_too_many_bytes(self):
        self.answers(size, [head(1, 1) + [0] * 131073], [-2])
        self.answers(size, [head(1, 1) + [0] * 131072], [-6])
