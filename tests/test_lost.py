"""wl_lost, held against the document's formula computed with fractions."""

import unittest
from fractions import Fraction

from tests.answers import Answers
from tests.exact import exact_lost, nearest_even
from waiting.lines import rounded, wl_lost

MOST = 4294967295


class Ordinary(unittest.TestCase):
    def check(self, c, a):
        with self.subTest(c=c, a=a):
            self.assertEqual(wl_lost(c, a), [0, nearest_even(exact_lost(c, a))])

    def test_known_by_hand(self):
        # One line, load 1: 1 / 2. Two lines: (1/2) / (5/2). Three: (1/6) / (16/6).
        self.assertEqual(wl_lost(1, 1000000), [0, 500000000])
        self.assertEqual(wl_lost(2, 1000000), [0, 200000000])
        self.assertEqual(wl_lost(3, 1000000), [0, 62500000])
        # Two lines, load 2: 2 / 5. One line, a quarter: 1 / 5.
        self.assertEqual(wl_lost(2, 2000000), [0, 400000000])
        self.assertEqual(wl_lost(1, 250000), [0, 200000000])

    def test_rounds_down_and_up(self):
        # 1 / 3 and 2 / 3.
        self.assertEqual(wl_lost(1, 500000), [0, 333333333])
        self.assertEqual(wl_lost(1, 2000000), [0, 666666667])

    def test_small_c(self):
        for c in range(1, 9):
            for a in (1, 2, 999, 31623, 500000, 999999, 1000000, 1000001, 3141593, 8000000, 123456789, 999999999):
                self.check(c, a)

    def test_large_c(self):
        for c in (50, 99, 100, 128, 200, 255, 256):
            for a in (1, 1000000, 50000000, 99999999, 128000000, 256000000, 700000001, 999999999):
                self.check(c, a)

    def test_every_c(self):
        for c in range(1, 257):
            self.check(c, c * 1000000 - 7 * c + 1)

    def test_many_loads(self):
        # Steps by a prime, so that the loads share few factors with a million.
        for c in (1, 2, 3, 5, 17):
            for a in range(1, 40000000, 399989):
                self.check(c, a)
            for a in range(1, 1000000000, 19999999):
                self.check(c, a)

    def test_too_small_to_tell(self):
        self.assertEqual(wl_lost(2, 1), [0, 0])
        self.assertEqual(wl_lost(256, 1000000), [0, 0])

    def test_first_that_rounds_to_one(self):
        # Two lines: a load of 31 or 32 millionths is about 481 or 512 million-millionths.
        self.assertEqual(wl_lost(2, 31), [0, 0])
        self.assertEqual(wl_lost(2, 32), [0, 1])


class Edges(unittest.TestCase):
    all_c = (0, 1, 256, 257, MOST)
    all_a = (0, 1, 1000000000, 1000000001, MOST)

    def test_each_edge_with_each(self):
        for c in self.all_c:
            for a in self.all_a:
                with self.subTest(c=c, a=a):
                    if c in (1, 256) and a in (0, 1, 1000000000):
                        self.assertEqual(wl_lost(c, a), [0, nearest_even(exact_lost(c, a))])
                    else:
                        self.assertEqual(wl_lost(c, a), [-2])

    def test_each_edge_with_one_well_inside(self):
        for c in self.all_c:
            expected = [0, nearest_even(exact_lost(c, 5000000))] if c in (1, 256) else [-2]
            self.assertEqual(wl_lost(c, 5000000), expected)
        for a in self.all_a:
            expected = [0, nearest_even(exact_lost(7, a))] if a <= 1000000000 else [-2]
            self.assertEqual(wl_lost(7, a), expected)

    def test_answers_at_the_edges(self):
        self.assertEqual(wl_lost(1, 0), [0, 0])
        self.assertEqual(wl_lost(256, 0), [0, 0])
        # 1000000000 / 1000001 is 999.999.., 1000 / 1001 is 0.999000999000..
        self.assertEqual(wl_lost(1, 1), [0, 1000])
        self.assertEqual(wl_lost(1, 1000000000), [0, 999000999])

    def test_no_load_loses_nothing(self):
        for c in range(1, 257):
            self.assertEqual(wl_lost(c, 0), [0, 0])


class Halves(unittest.TestCase):
    # All halves of one line: a / (1000000 + a) is odd over 1024 there.
    of_one_line = ((638400, 389648438), (7192000, 877929688), (39960000, 975585938), (203800000, 995117188))

    def test_halves_of_one_line(self):
        for a, even in self.of_one_line:
            with self.subTest(a=a):
                self.assertEqual((exact_lost(1, a) * 1000000000) % 1, Fraction(1, 2))
                self.assertEqual(wl_lost(1, a), [0, even])

    def test_next_to_halves(self):
        for a, even in self.of_one_line:
            for near in (a - 1, a + 1):
                self.assertEqual(wl_lost(1, near), [0, nearest_even(exact_lost(1, near))])

    def test_rounding_itself(self):
        # The halves above all go up, so those that go down are asked of the rounding by itself.
        for twice, even in ((1, 0), (3, 2), (5, 2), (7, 4), (9, 4), (999999999, 500000000), (1000000001, 500000000)):
            for factor in (1, 3, 10 ** 40):
                with self.subTest(twice=twice, factor=factor):
                    self.assertEqual(rounded(twice * factor, 2000000000 * factor), even)

    def test_rounding_close_to_a_half(self):
        large = 10 ** 60
        for twice, below, above in ((1, 0, 1), (3, 1, 2), (5, 2, 3)):
            self.assertEqual(rounded(twice * large - 1, 2000000000 * large), below)
            self.assertEqual(rounded(twice * large + 1, 2000000000 * large), above)

    def test_rounding_of_whole_ones(self):
        for top, bottom, whole in ((0, 1, 0), (1, 1, 1000000000), (1, 1000000000, 1), (7, 7000000000, 1)):
            self.assertEqual(rounded(top, bottom), whole)


class OfLost(Answers, unittest.TestCase):
    call = staticmethod(wl_lost)
    signature = "(c, a)"
    taken = ((1, 0), (1, 1), (1, 638400), (2, 1000000), (40, 33000000), (256, 0), (256, 1000000000))
    refused = (
        ((0, 0), -2), ((0, 1), -2), ((257, 1), -2), ((MOST, 1), -2), ((1, 1000000001), -2), ((1, MOST), -2),
        ((0, MOST), -2), ((MOST, MOST), -2),
    )

    def test_the_first_number_is_0(self):
        for c, a in self.taken:
            answer = wl_lost(c, a)
            self.assertEqual(answer[0], 0)
            self.assertLessEqual(answer[1], 1000000000)

    def test_arguments_by_name(self):
        self.assertEqual(wl_lost(a=1000000, c=2), [0, 200000000])


if __name__ == "__main__":
    unittest.main()
