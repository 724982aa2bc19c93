import unittest

from calling import VERY_LARGE, Calling, GuardedList, model_of, patterned, patterned_film, patterned_model
from calling import wrong_counts, wrong_films, wrong_sizes
from paintsheets.sheets import expose

DARK_MODEL = [0] * 768
SIZES = ((1, 1), (2, 1), (1, 2), (3, 2), (2, 3), (17, 31), (256, 1), (1, 256), (256, 5), (5, 256))


def lit(w, h, e, film, a, model):
    """Point by point, its three numbers each where they stand in the film."""
    numbers = list(film)
    for x in range(w):
        for y in range(h):
            point = y * w + x
            for colour in (0, 1, 2):
                place = colour * w * h + point
                grown = numbers[place] + e * model[a[point] * 3 + colour]
                numbers[place] = grown if grown < 65535 else 65535
    return numbers


class ExposeCase(Calling, unittest.TestCase):
    def exposed(self, w, h, e, film, a, model, numbers):
        with self.subTest(w=w, h=h, e=e):
            self.answers(expose, [w, h, e, film, a, model], numbers)


class WrittenOut(ExposeCase):
    film = list(range(100, 118))
    sheet = [1, 2, 0, 255, 1, 2]

    def test_each_colour_by_itself(self):
        for w, h in ((3, 2), (2, 3), (6, 1)):
            red = model_of({0: [1, 0, 0], 1: [10, 0, 0], 2: [20, 0, 0], 255: [200, 0, 0]})
            numbers = [120, 141, 104, 503, 124, 145] + self.film[6:]
            self.exposed(w, h, 2, self.film, self.sheet, red, numbers)
            green = model_of({0: [0, 1, 0], 1: [0, 10, 0], 2: [0, 20, 0], 255: [0, 200, 0]})
            numbers = self.film[:6] + [126, 147, 110, 509, 130, 151] + self.film[12:]
            self.exposed(w, h, 2, self.film, self.sheet, green, numbers)
            blue = model_of({0: [0, 0, 1], 1: [0, 0, 10], 2: [0, 0, 20], 255: [0, 0, 200]})
            numbers = self.film[:12] + [132, 153, 116, 515, 136, 157]
            self.exposed(w, h, 2, self.film, self.sheet, blue, numbers)

    def test_all_colours_and_no_count_ahead(self):
        model = model_of({0: [1, 2, 3], 1: [10, 20, 30], 2: [40, 50, 60], 255: [70, 80, 90]})
        numbers = [110, 141, 103, 173, 114, 145, 126, 157, 110, 189, 130, 161, 142, 173, 117, 205, 146, 177]
        self.exposed(3, 2, 1, self.film, self.sheet, model, numbers)
        self.exposed(2, 3, 1, self.film, self.sheet, model, numbers)

    def test_by_nothing_and_by_the_most(self):
        self.exposed(3, 2, 0, self.film, self.sheet, [255] * 768, self.film)
        model = model_of({1: [1, 2, 255]})
        numbers = [164, 101, 102, 103, 168, 105, 234, 107, 108, 109, 238, 111, 16432, 113, 114, 115, 16436, 117]
        self.exposed(3, 2, 64, self.film, self.sheet, model, numbers)

    def test_clear_points_get_the_light_of_paint_0(self):
        model = model_of({0: [5, 6, 7], 1: [255, 255, 255]})
        self.exposed(1, 1, 1, [0, 0, 0], [0], model, [5, 6, 7])
        self.exposed(2, 1, 10, [1, 2, 3, 4, 5, 6], [0, 0], model, [51, 52, 63, 64, 75, 76])
        self.exposed(2, 1, 1, [0] * 6, [0, 1], model, [5, 255, 6, 255, 7, 255])

    def test_last_paint(self):
        model = [0] * 765 + [11, 12, 13]
        self.exposed(1, 1, 1, [0, 0, 0], [255], model, [11, 12, 13])
        self.exposed(1, 1, 1, [0, 0, 0], [254], model, [0, 0, 0])
        self.exposed(1, 2, 64, [0] * 6, [254, 255], model, [0, 704, 0, 768, 0, 832])


class Stopping(ExposeCase):
    def test_about_the_greatest_number(self):
        model = model_of({7: [1, 3, 255]})
        for e in (1, 2, 63, 64):
            for end, wanted in ((65533, 65533), (65534, 65534), (65535, 65535), (65536, 65535), (65537, 65535)):
                film = [min(65535, end - e * light) for light in (1, 3, 255)]
                self.exposed(1, 1, e, film, [7], model, [wanted] * 3)

    def test_each_number_by_itself(self):
        model = model_of({0: [100, 0, 200], 9: [0, 255, 1]})
        film = [65535, 65535, 1, 65280, 65335, 65530]
        self.exposed(2, 1, 1, film, [0, 9], model, [65535, 65535, 1, 65535, 65535, 65531])

    def test_the_greatest_stays(self):
        for w, h in ((1, 1), (3, 2)):
            for e in (0, 1, 64):
                for light in (0, 1, 255):
                    film = [65535] * (3 * w * h)
                    self.exposed(w, h, e, film, [7] * (w * h), [light] * 768, film)

    def test_from_nothing_to_the_most_that_one_exposure_gives(self):
        self.exposed(1, 1, 64, [0, 0, 0], [7], [255] * 768, [16320] * 3)
        self.exposed(1, 1, 64, [49214, 49215, 49216], [7], [255] * 768, [65534, 65535, 65535])


class PointByPoint(ExposeCase):
    def test_sheets_of_many_sizes(self):
        for w, h in SIZES:
            for e in (0, 1, 17, 63, 64):
                a = patterned(w, h)
                film = patterned_film(w, h)
                model = patterned_model()
                self.exposed(w, h, e, film, a, model, lit(w, h, e, film, a, model))

    def test_every_paint(self):
        model = patterned_model()
        for w, h in ((256, 1), (1, 256), (16, 16)):
            numbers = model[0::3] + model[1::3] + model[2::3]
            self.exposed(w, h, 1, [0] * 768, list(range(256)), model, numbers)

    def test_every_exposure(self):
        for e in range(65):
            self.exposed(1, 1, e, [3, 2, 1], [7], model_of({7: [1, 100, 255]}), [3 + e, 2 + 100 * e, 1 + 255 * e])

    def test_same_list_more_than_once(self):
        a = GuardedList(list(range(256)) * 3)
        self.assertEqual(expose(256, 3, 1, a * 3, a, a), lit(256, 3, 1, a * 3, a, a))
        film = GuardedList(list(range(256)) * 3)
        self.assertEqual(expose(16, 16, 64, film, film[:256], film), lit(16, 16, 64, film, film[:256], film))

    def test_largest_of_all(self):
        a = patterned(256, 256)
        film = patterned_film(256, 256)
        model = patterned_model()
        self.assertEqual(expose(256, 256, 64, film, a, model), lit(256, 256, 64, film, a, model))


class Refused(ExposeCase):
    def refused(self, w, h, e, film, a, model):
        with self.subTest(w=w, h=h, e=e, film=len(film), points=len(a), model=len(model)):
            self.answers(expose, [w, h, e, film, a, model], [-1])

    def test_sizes_and_points(self):
        for w, h, points in wrong_sizes() + wrong_counts():
            for e in (0, 64):
                self.refused(w, h, e, [9] * (3 * points), [7] * points, DARK_MODEL)

    def test_points_alone(self):
        for w, h, points in wrong_counts():
            self.refused(w, h, 1, [9] * (3 * w * h), [7] * points, DARK_MODEL)
        self.refused(3, 2, 1, [9] * 18, [7] * 18, DARK_MODEL)

    def test_film(self):
        for w, h in ((1, 1), (3, 2), (2, 3), (256, 1), (1, 256)):
            for film in wrong_films(w, h):
                for e in (0, 1, 64):
                    self.refused(w, h, e, film, [7] * (w * h), DARK_MODEL)

    def test_number_that_is_too_great_where_no_light_comes(self):
        for number in (65536, 4294967295):
            for place in range(18):
                film = [0] * place + [number] + [0] * (17 - place)
                self.refused(3, 2, 0, film, [0] * 6, DARK_MODEL)

    def test_model(self):
        for length in (0, 1, 3, 256, 767, 769, 1536):
            for w, h in ((1, 1), (3, 2)):
                for paint in (0, 7):
                    self.refused(w, h, 1, [9] * (3 * w * h), [paint] * (w * h), [5] * length)

    def test_exposure(self):
        for e in (65, 66, 128, 255, 256) + VERY_LARGE:
            for model in (DARK_MODEL, [255] * 768):
                self.refused(3, 2, e, [9] * 18, [7] * 6, model)
                self.refused(1, 1, e, [65535] * 3, [7], model)

    def test_several_together(self):
        for w, h, points in ((0, 2, 0), (257, 1, 257), (3, 2, 5), (3, 2, 6), (1, 18446744073709551615, 1)):
            for film in ([], [9] * 17, [9] * 19, [65536] * 18, [4294967295] * (3 * points)):
                for model in ([], [5] * 767, [5] * 768, [5] * 769):
                    for e in (0, 65, 18446744073709551615):
                        self.refused(w, h, e, film, [7] * points, model)
