"""A4: light let in in any order, in any parts, comes to the same.

What was dark, exposed by 64 in all to one sheet, is developed as the model says.
"""

import itertools
import unittest

from calling import Calling, lists, patterned, patterned_film, patterned_model
from paintsheets.sheets import develop, expose

SIZES = ((1, 1), (3, 2), (2, 3), (17, 31), (256, 1), (1, 256))
MODELS = (patterned_model(), patterned_model()[::-1], [255] * 768)


def films(w, h):
    """Dark, of many numbers, and of numbers that a little light or much of it brings to where they stop."""
    length = 3 * w * h
    return [
        [0] * length,
        patterned_film(w, h),
        [65535 - n % 300 for n in range(length)],
        [65535 - n * 61 % 33000 for n in range(length)],
        [65535] * length,
    ]


def sheets_of(w, h):
    points = range(w * h)
    return [patterned(w, h), [255 - n % 256 for n in points], [n * 100 % 256 for n in points]]


def parts(e, several):
    """All the ways to part e into several, some of them perhaps 0."""
    if several == 1:
        return [(e,)]
    return [(first,) + rest for first in range(e + 1) for rest in parts(e - first, several - 1)]


class LightCase(Calling, unittest.TestCase):
    def let_in(self, w, h, film, exposures):
        """Exposures one behind the other, each of them e, the sheet, the model."""
        for e, a, model in exposures:
            film = expose(w, h, e, film, a, model)
            self.assertEqual(len(film), 3 * w * h)
        return film

    def sum_of(self, film, exposures):
        """All light summed up first, and stopped once, at the end."""
        points = len(film) // 3
        numbers = []
        for place in range(len(film)):
            colour, point = divmod(place, points)
            grown = sum(e * model[3 * a[point] + colour] for e, a, model in exposures)
            numbers.append(min(65535, film[place] + grown))
        return numbers

    def same_in_any_order(self, w, h, film, exposures):
        wanted = self.sum_of(film, exposures)
        for order in itertools.permutations(exposures):
            self.assertEqual(self.let_in(w, h, film, order), wanted)


class InAnyOrder(LightCase):
    def test_two_sheets(self):
        for w, h in SIZES:
            for film in films(w, h):
                for a, b in itertools.combinations(sheets_of(w, h), 2):
                    for e, f in ((1, 1), (64, 64), (5, 59), (0, 64)):
                        self.same_in_any_order(w, h, film, [(e, a, MODELS[0]), (f, b, MODELS[0])])

    def test_three_sheets(self):
        for w, h in SIZES:
            for film in films(w, h):
                a, b, c = sheets_of(w, h)
                for e, f, g in ((1, 1, 1), (64, 64, 64), (3, 20, 41), (64, 0, 1)):
                    exposures = [(e, a, MODELS[0]), (f, b, MODELS[0]), (g, c, MODELS[0])]
                    self.same_in_any_order(w, h, film, exposures)

    def test_models_of_their_own(self):
        for w, h in SIZES:
            for film in films(w, h):
                exposures = list(zip((64, 9, 30), sheets_of(w, h), MODELS))
                self.same_in_any_order(w, h, film, exposures)

    def test_every_small_sheet(self):
        for a, b in itertools.product(lists((0, 1, 255), 2), repeat=2):
            for film in ([0] * 6, [65535, 65534, 65000, 60000, 49215, 49216]):
                self.same_in_any_order(2, 1, film, [(64, a, MODELS[0]), (63, b, MODELS[0])])

    def test_more_than_a_film_takes(self):
        a, b, c = sheets_of(3, 2)
        exposures = [(64, a, MODELS[2]), (64, b, MODELS[2]), (64, c, MODELS[2]), (64, a, MODELS[2]), (64, b, MODELS[2])]
        self.assertEqual(self.let_in(3, 2, [0] * 18, exposures[:4]), [65280] * 18)
        self.same_in_any_order(3, 2, [0] * 18, exposures)
        self.assertEqual(self.let_in(3, 2, [0] * 18, exposures), [65535] * 18)


class InAnyParts(LightCase):
    def same_in_parts(self, w, h, film, a, parted):
        at_once = expose(w, h, sum(parted), film, a, MODELS[0])
        self.assertEqual(self.let_in(w, h, film, [(e, a, MODELS[0]) for e in parted]), at_once)

    def test_all_twos(self):
        for film in films(2, 1):
            for e in range(65):
                for parted in parts(e, 2):
                    self.same_in_parts(2, 1, film, [7, 255], parted)

    def test_all_threes_of_the_most(self):
        for film in films(1, 1):
            for e in (1, 2, 64):
                for parted in parts(e, 3):
                    self.same_in_parts(1, 1, film, [200], parted)

    def test_sheets_of_many_sizes(self):
        for w, h in SIZES:
            for film in films(w, h):
                for a in sheets_of(w, h):
                    for parted in ((1, 1), (0, 64), (32, 32), (63, 1), (1, 2, 3), (20, 20, 24), (64, 0, 0), (1,) * 64):
                        self.same_in_parts(w, h, film, a, parted)

    def test_parts_between_another_sheets_parts(self):
        for w, h in SIZES:
            a, b, c = sheets_of(w, h)
            for film in films(w, h):
                wanted = self.sum_of(film, [(64, a, MODELS[0]), (50, b, MODELS[0])])
                for in_parts in (
                    [(30, a), (20, b), (34, a), (30, b)],
                    [(50, b), (1, a), (63, a)],
                    [(1, b), (64, a), (0, b), (49, b)],
                    [(64, a), (25, b), (0, a), (25, b)],
                ):
                    exposures = [(e, sheet, MODELS[0]) for e, sheet in in_parts]
                    self.assertEqual(self.let_in(w, h, film, exposures), wanted)


class DarkExposedBy64(LightCase):
    def as_the_model_says(self, w, h, a, model, parted):
        film = self.let_in(w, h, [0] * (3 * w * h), [(e, a, model) for e in parted])
        wanted = [model[3 * paint + colour] for colour in range(3) for paint in a]
        self.answers(develop, [w, h, film], [len(wanted)] + wanted)

    def test_every_paint_and_every_light(self):
        every = list(range(256))
        for model in MODELS + ((every * 3), [0] * 768, [n // 3 for n in range(768)]):
            for w, h in ((256, 1), (1, 256), (16, 16)):
                self.as_the_model_says(w, h, every, model, (64,))

    def test_in_all_twos_and_threes(self):
        for parted in parts(64, 2) + parts(64, 3):
            self.as_the_model_says(2, 1, [0, 255], MODELS[0], parted)

    def test_in_many_parts(self):
        for parted in ((1,) * 64, (0, 1) * 64, (2,) * 32, (7, 9, 11, 13, 24)):
            for w, h in SIZES:
                for a in sheets_of(w, h):
                    self.as_the_model_says(w, h, a, MODELS[0], parted)

    def test_less_than_64_is_less_light(self):
        film = self.let_in(1, 1, [0, 0, 0], [(32, [7], [200] * 768)])
        self.assertEqual(develop(1, 1, film), [3, 100, 100, 100])
