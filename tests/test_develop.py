import unittest

from calling import Calling, patterned_film, wrong_counts, wrong_films, wrong_sizes
from paintsheets.sheets import develop


def steps():
    """For each byte the least number that becomes it: half a step before 64 times the byte."""
    return [0] + [64 * byte - 32 for byte in range(1, 256)]


class Developed(Calling, unittest.TestCase):
    def developed(self, w, h, film, b):
        with self.subTest(w=w, h=h):
            self.answers(develop, [w, h, film], [len(b)] + b)

    def test_written_out(self):
        film = [0, 31, 32, 95, 96, 16287, 16288, 65535, 64]
        self.developed(3, 1, film, [0, 0, 1, 1, 2, 254, 255, 255, 1])
        self.developed(1, 3, film, [0, 0, 1, 1, 2, 254, 255, 255, 1])

    def test_count_stands_ahead(self):
        self.answers(develop, [1, 1, [64, 128, 192]], [3, 1, 2, 3])
        self.answers(develop, [2, 1, [640, 0, 64, 128, 192, 16320]], [6, 10, 0, 1, 2, 3, 255])

    def test_films_order(self):
        film = [64 * n for n in (6, 1, 5, 2, 4, 3, 16, 11, 15, 12, 14, 13, 26, 21, 25, 22, 24, 23)]
        for w, h in ((3, 2), (2, 3), (6, 1), (1, 6)):
            self.developed(w, h, film, [6, 1, 5, 2, 4, 3, 16, 11, 15, 12, 14, 13, 26, 21, 25, 22, 24, 23])

    def test_about_each_step(self):
        self.developed(256, 1, steps() * 3, list(range(256)) * 3)
        self.developed(1, 255, [n - 1 for n in steps()[1:]] * 3, list(range(255)) * 3)
        self.developed(256, 1, [n + 31 for n in steps()] * 3, list(range(256)) * 3)

    def test_every_number(self):
        film = list(range(65536)) + [0] * 512
        self.developed(256, 86, film, [min(255, (n + 32) // 64) for n in film])

    def test_all_alike(self):
        for w, h in ((1, 1), (3, 2), (256, 8), (8, 256)):
            for number, byte in ((0, 0), (31, 0), (32, 1), (16287, 254), (16288, 255), (16320, 255), (65535, 255)):
                self.developed(w, h, [number] * (3 * w * h), [byte] * (3 * w * h))

    def test_largest_of_all(self):
        film = patterned_film(256, 256)
        self.assertEqual(develop(256, 256, film), [196608] + [min(255, (n + 32) // 64) for n in film])


class Refused(Calling, unittest.TestCase):
    def refused(self, w, h, film):
        with self.subTest(w=w, h=h, film=len(film)):
            self.answers(develop, [w, h, film], [-1])

    def test_sizes_and_numbers(self):
        for w, h, points in wrong_sizes() + wrong_counts():
            self.refused(w, h, [9] * (3 * points))

    def test_film(self):
        for w, h in ((1, 1), (3, 2), (2, 3), (256, 1), (1, 256), (256, 7)):
            for film in wrong_films(w, h):
                self.refused(w, h, film)

    def test_number_that_is_too_great_anywhere(self):
        for number in (65536, 4294967295):
            for place in range(18):
                self.refused(3, 2, [0] * place + [number] + [0] * (17 - place))

    def test_several_together(self):
        for w, h in ((0, 2), (257, 1), (3, 2), (1, 18446744073709551615)):
            for film in ([], [65536], [65536] * 17, [65536] * 19, [4294967295] * 771):
                self.refused(w, h, film)
