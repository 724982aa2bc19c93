import unittest

from calling import MARK, Calling, head, sheet_bytes
from paintsheets.sheets import judge


class JudgeCase(Calling, unittest.TestCase):
    def sound(self, b):
        self.answers(judge, [b], [0])

    def faulty(self, b, kind, place):
        self.answers(judge, [b], [-6, kind, place])


class SheetsAreSound(JudgeCase):
    def test_one_point(self):
        self.sound(sheet_bytes(1, 1, [(1, 0)]))
        self.sound(sheet_bytes(1, 1, [(1, 255)]))

    def test_bytes_written_out(self):
        self.sound([67, 69, 76, 49, 3, 0, 2, 0, 0, 7, 1, 9, 2, 0])

    def test_widest_row_of_one_run(self):
        self.sound(sheet_bytes(256, 1, [(256, 5)]))

    def test_widest_row_of_single_points(self):
        self.sound(sheet_bytes(256, 1, [(1, x % 2) for x in range(256)]))

    def test_highest(self):
        self.sound(sheet_bytes(1, 256, *[[(1, 3)] for y in range(256)]))

    def test_rows_of_several_runs(self):
        self.sound(sheet_bytes(6, 2, [(1, 1), (2, 2), (3, 1)], [(4, 0), (1, 255), (1, 0)]))
        self.sound(sheet_bytes(200, 1, [(100, 8), (100, 9)]))

    def test_one_paint_over_a_rows_end(self):
        self.sound(sheet_bytes(3, 2, [(1, 1), (2, 4)], [(1, 4), (2, 1)]))
        self.sound(sheet_bytes(2, 3, [(2, 0)], [(2, 0)], [(2, 0)]))

    def test_largest_of_all(self):
        row = [(1, x % 2) for x in range(256)]
        b = sheet_bytes(256, 256) + sheet_bytes(256, 1, row)[8:] * 256
        self.assertEqual(len(b), 131080)
        self.sound(b)


class TooManyBytes(JudgeCase):
    def test_one_more_than_any_sheet_has(self):
        row = sheet_bytes(256, 1, [(1, x % 2) for x in range(256)])[8:]
        self.answers(judge, [head(256, 256) + row * 256 + [0]], [-2])

    def test_too_many_goes_before_a_fault(self):
        self.answers(judge, [[0] * 131081], [-2])
        self.faulty([0] * 131080, 1, 0)


class Kind1(JudgeCase):
    def test_no_bytes(self):
        self.faulty([], 1, 0)

    def test_fewer_than_eight(self):
        for length in range(8):
            with self.subTest(length=length):
                self.faulty(head(1, 1)[:length], 1, 0)

    def test_eight_are_enough_for_the_head(self):
        self.faulty(head(1, 1), 3, 8)

    def test_each_byte_of_the_mark(self):
        for b in (head(1, 1), sheet_bytes(1, 1, [(1, 7)]), sheet_bytes(2, 2, [(2, 7)], [(2, 8)])):
            for place in range(4):
                for wrong in (0, 255, MARK[place] - 1, MARK[place] + 1):
                    with self.subTest(b=b, place=place, wrong=wrong):
                        self.faulty(b[:place] + [wrong] + b[place + 1:], 1, 0)

    def test_mark_in_another_order(self):
        self.faulty(MARK[::-1] + sheet_bytes(1, 1, [(1, 7)])[4:], 1, 0)

    def test_before_kinds_2_and_6(self):
        self.faulty([0] * 8, 1, 0)
        self.faulty([0] + sheet_bytes(1, 1, [(1, 7)])[1:] + [9], 1, 0)


class Kind2(JudgeCase):
    wrong = (0, 257, 258, 511, 512, 256 * 255, 65535)

    def test_width(self):
        for w in self.wrong:
            with self.subTest(w=w):
                self.faulty(head(w, 1), 2, 4)
                self.faulty(head(w, 1) + [0, 7], 2, 4)

    def test_height(self):
        for h in self.wrong:
            with self.subTest(h=h):
                self.faulty(head(1, h), 2, 6)
                self.faulty(head(1, h) + [0, 7], 2, 6)

    def test_higher_byte_counts(self):
        self.faulty(MARK + [1, 1, 1, 0, 0, 7], 2, 4)
        self.faulty(MARK + [1, 0, 1, 1, 0, 7], 2, 6)
        self.faulty(MARK + [0, 1, 1, 0], 3, 8)
        self.faulty(MARK + [1, 0, 0, 1], 3, 8)

    def test_width_before_height(self):
        for w in self.wrong:
            for h in self.wrong:
                self.faulty(head(w, h), 2, 4)

    def test_before_kinds_3_and_6(self):
        self.faulty(head(1, 0), 2, 6)
        self.faulty(head(0, 1) + [0, 7, 9], 2, 4)


class Kind3(JudgeCase):
    def test_none_left_in_the_first_row(self):
        self.faulty(head(3, 2), 3, 8)
        self.faulty(sheet_bytes(3, 2, [(1, 1)]), 3, 10)

    def test_one_left_in_the_first_row(self):
        self.faulty(head(3, 2) + [2], 3, 9)
        self.faulty(sheet_bytes(3, 2, [(1, 1)]) + [1], 3, 11)

    def test_none_left_in_a_later_row(self):
        self.faulty(sheet_bytes(3, 2, [(3, 1)]), 3, 10)
        self.faulty(sheet_bytes(3, 3, [(3, 1)], [(1, 2), (2, 1)], [(2, 4)]), 3, 16)

    def test_one_left_in_a_later_row(self):
        self.faulty(sheet_bytes(3, 2, [(3, 1)]) + [2], 3, 11)
        self.faulty(sheet_bytes(3, 2, [(3, 1)], [(2, 4)]) + [0], 3, 13)

    def test_last_row_of_the_highest(self):
        self.faulty(sheet_bytes(1, 256, *[[(1, 3)] for y in range(255)]), 3, 518)

    def test_one_left_is_not_judged_as_a_run(self):
        self.faulty(head(1, 1) + [200], 3, 9)


class Kind4(JudgeCase):
    def test_first_run_of_a_row(self):
        self.faulty(head(1, 1) + [1, 7], 4, 8)
        self.faulty(head(255, 1) + [255, 7], 4, 8)
        self.faulty(sheet_bytes(3, 2, [(3, 1)], [(4, 1)]), 4, 10)

    def test_later_run_of_a_row(self):
        self.faulty(sheet_bytes(3, 1, [(2, 1), (2, 2)]), 4, 10)
        self.faulty(sheet_bytes(3, 2, [(1, 1), (2, 2)], [(1, 1), (1, 2), (2, 3)]), 4, 16)

    def test_before_kinds_5_and_6(self):
        self.faulty(sheet_bytes(3, 1, [(2, 1), (2, 1)]), 4, 10)
        self.faulty(sheet_bytes(3, 1, [(4, 1)]) + [9, 9, 9], 4, 8)

    def test_goes_before_what_is_missing_further_on(self):
        self.faulty(sheet_bytes(3, 2, [(4, 1)]), 4, 8)


class Kind5(JudgeCase):
    def test_first_run_that_can_be(self):
        self.faulty(sheet_bytes(2, 1, [(1, 7), (1, 7)]), 5, 10)
        self.faulty(sheet_bytes(2, 1, [(1, 0), (1, 0)]), 5, 10)
        self.faulty(sheet_bytes(2, 1, [(1, 255), (1, 255)]), 5, 10)

    def test_later_run(self):
        self.faulty(sheet_bytes(4, 1, [(1, 7), (1, 8), (1, 8), (1, 7)]), 5, 12)

    def test_later_row(self):
        self.faulty(sheet_bytes(2, 2, [(2, 7)], [(1, 7), (1, 7)]), 5, 12)
        self.faulty(sheet_bytes(3, 2, [(3, 7)], [(1, 1), (1, 2), (1, 2)]), 5, 14)

    def test_before_a_later_fault(self):
        self.faulty(sheet_bytes(4, 1, [(1, 7), (1, 7), (9, 7)]), 5, 10)
        self.faulty(sheet_bytes(4, 1, [(1, 7), (1, 7)]), 5, 10)

    def test_only_the_run_just_before_counts(self):
        self.sound(sheet_bytes(3, 1, [(1, 7), (1, 8), (1, 7)]))


class Kind6(JudgeCase):
    def test_one_byte(self):
        self.faulty(sheet_bytes(1, 1, [(1, 7)]) + [0], 6, 10)
        self.faulty(sheet_bytes(2, 2, [(2, 7)], [(1, 7), (1, 8)]) + [255], 6, 14)

    def test_several_bytes(self):
        for more in range(2, 6):
            self.faulty(sheet_bytes(1, 1, [(1, 7)]) + [0] * more, 6, 10)

    def test_a_row_more(self):
        self.faulty(sheet_bytes(2, 1, [(2, 7)], [(2, 7)]), 6, 10)

    def test_a_run_before_it_is_judged_first(self):
        self.faulty(sheet_bytes(2, 1, [(1, 7), (1, 7)]) + [0], 5, 10)


class EachByItself(JudgeCase):
    def test_calls_in_turn(self):
        good = sheet_bytes(2, 1, [(2, 7)])
        for turn in range(3):
            self.sound(good)
            self.faulty(good + [1], 6, 10)
            self.faulty([], 1, 0)
