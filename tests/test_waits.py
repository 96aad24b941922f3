"""wl_waits, held against the document's formula computed with fractions."""

import unittest
from fractions import Fraction

from tests.answers import Answers
from tests.exact import exact_waits, nearest_even
from waiting.lines import wl_lost, wl_waits

MOST = 4294967295


class Ordinary(unittest.TestCase):
    def check(self, c, a):
        with self.subTest(c=c, a=a):
            self.assertEqual(wl_waits(c, a), [0, nearest_even(exact_waits(c, a))])

    def test_known_by_hand(self):
        # Two lines: the load's square over 2 and the load. Of 1 that's 1 / 3, of a half 1 / 10.
        self.assertEqual(wl_waits(2, 1000000), [0, 333333333])
        self.assertEqual(wl_waits(2, 500000), [0, 100000000])
        # Three lines, load 2: 4 / 19 is lost, so 12 / 19 over 3 - 30 / 19 waits, which is 4 / 9.
        self.assertEqual(wl_waits(3, 2000000), [0, 444444444])
        # Four lines, load 2: 2 / 21 is lost, so 8 / 21 over 4 - 38 / 21 waits, which is 4 / 23.
        self.assertEqual(wl_waits(4, 2000000), [0, 173913043])
        # Three lines, load 1: 1 / 16 is lost, so 3 / 16 over 3 - 15 / 16 waits, which is 1 / 11.
        self.assertEqual(wl_waits(3, 1000000), [0, 90909091])

    def test_of_one_line_the_load_itself_waits(self):
        for a in list(range(0, 1000000, 997)) + [1, 500000, 999998, 999999]:
            self.assertEqual(wl_waits(1, a), [0, 1000 * a])

    def test_two_lines(self):
        for a in range(1, 2000000, 1999):
            load = Fraction(a, 1000000)
            self.assertEqual(wl_waits(2, a), [0, nearest_even(load * load / (2 + load))])

    def test_small_c(self):
        for c in range(1, 9):
            for a in (1, 2, 999, 31623, 500000, 999999, 1000000, 1000001, 3141593, 4000001, 6999999):
                if a < c * 1000000:
                    self.check(c, a)

    def test_large_c(self):
        for c in (50, 99, 100, 128, 200, 255, 256):
            for a in (1, 1000000, 30000000, 49999999, 90000000, 99999999, 127000001, 199999999, 254000001, 255999999):
                if a < c * 1000000:
                    self.check(c, a)

    def test_close_below_every_c(self):
        for c in range(1, 257):
            self.check(c, c * 1000000 - 1)
            self.check(c, c * 1000000 - 13 * c)

    def test_every_c_under_one_load(self):
        for c in range(1, 257):
            self.check(c, c * 900000 + 1)

    def test_many_loads(self):
        # Steps by a prime, so that the loads share few factors with a million.
        for c in (2, 3, 5, 17):
            for a in range(1, c * 1000000, 19993):
                self.check(c, a)

    def test_too_small_to_tell(self):
        self.assertEqual(wl_waits(3, 1), [0, 0])
        self.assertEqual(wl_waits(256, 100000000), [0, 0])

    def test_first_that_rounds_to_one(self):
        # Two lines: a load of 31 or 32 millionths is about 480 or 512 million-millionths.
        self.assertEqual(wl_waits(2, 31), [0, 0])
        self.assertEqual(wl_waits(2, 32), [0, 1])

    def test_more_waits_than_is_lost(self):
        # Five lines, load 4: 128 / 643 is lost, 128 / 231 waits.
        self.assertEqual(wl_lost(5, 4000000), [0, 199066874])
        self.assertEqual(wl_waits(5, 4000000), [0, 554112554])


class Edges(unittest.TestCase):
    all_c = (0, 1, 256, 257, MOST)
    all_a = (0, 1, 1000000000, 1000000001, MOST)

    def test_each_edge_with_each(self):
        for c in self.all_c:
            for a in self.all_a:
                with self.subTest(c=c, a=a):
                    if c not in (1, 256) or a > 1000000000:
                        self.assertEqual(wl_waits(c, a), [-2])
                    elif a == 1000000000:
                        self.assertEqual(wl_waits(c, a), [-6])
                    else:
                        self.assertEqual(wl_waits(c, a), [0, nearest_even(exact_waits(c, a))])

    def test_each_edge_with_one_well_inside(self):
        for c in (0, 257, MOST):
            self.assertEqual(wl_waits(c, 700000), [-2])
        for c in (1, 256):
            self.assertEqual(wl_waits(c, 700000), [0, nearest_even(exact_waits(c, 700000))])
        for a in (0, 1):
            self.assertEqual(wl_waits(7, a), [0, nearest_even(exact_waits(7, a))])
        self.assertEqual(wl_waits(7, 1000000000), [-6])
        for a in (1000000001, MOST):
            self.assertEqual(wl_waits(7, a), [-2])

    def test_the_load_about_c(self):
        for c in (1, 2, 256):
            with self.subTest(c=c):
                limit = 1000000 * c
                self.assertEqual(wl_waits(c, limit - 1), [0, nearest_even(exact_waits(c, limit - 1))])
                for a in (limit, limit + 1, limit + 1000000, 1000000000):
                    self.assertEqual(wl_waits(c, a), [-6])

    def test_the_load_about_every_c(self):
        for c in range(1, 257):
            self.assertEqual(wl_waits(c, 1000000 * c - 1)[0], 0)
            self.assertEqual(wl_waits(c, 1000000 * c), [-6])

    def test_answers_just_below_c(self):
        self.assertEqual(wl_waits(1, 999999), [0, 999999000])
        # 1.999999 squared over 3.999999 is 0.99999925000..
        self.assertEqual(wl_waits(2, 1999999), [0, 999999250])

    def test_no_load_never_waits(self):
        for c in range(1, 257):
            self.assertEqual(wl_waits(c, 0), [0, 0])

    def test_the_first_refusal_comes_first(self):
        # In each of these the load isn't below c either.
        for c, a in ((0, 0), (0, 1), (0, 1000000000), (0, MOST), (1, 1000000001), (1, MOST), (256, 1000000001)):
            with self.subTest(c=c, a=a):
                self.assertEqual(wl_waits(c, a), [-2])
        self.assertEqual(wl_waits(257, 257000000), [-2])
        self.assertEqual(wl_waits(1000, 1000000000), [-2])


class Halves(unittest.TestCase):
    # A search through every c and a found no half. These are close to one, by less than 0.000001:
    # below it, so that they go down, and above it, so that they go up.
    below = ((2, 1854907, 892545521), (2, 1266683, 491166673), (2, 1090969, 385061564), (3, 1659974, 297106810),
             (4, 2150809, 213101745), (10, 4819519, 28932770))
    above = ((2, 1355979, 547881571), (3, 2752813, 848369755), (4, 2158864, 215314018), (4, 2494460, 317992709),
             (10, 5730822, 78963193), (10, 1901671, 31427))

    def test_next_to_halves(self):
        for cases, up in ((self.below, 0), (self.above, 1)):
            for c, a, whole in cases:
                with self.subTest(c=c, a=a):
                    part = exact_waits(c, a) * 1000000000 - whole
                    self.assertLess(abs(part - Fraction(1, 2)), Fraction(1, 1000000))
                    self.assertEqual(part > Fraction(1, 2), up == 1)
                    self.assertEqual(wl_waits(c, a), [0, whole + up])

    def test_whole_ones(self):
        # All loads of two lines of which the part, times 1000000000, is whole.
        for a, whole in ((48000, 1125000), (500000, 100000000), (560000, 122500000), (1125000, 405000000),
                         (1200000, 450000000), (1276800, 497503125), (1906250, 930250000)):
            with self.subTest(a=a):
                self.assertEqual(exact_waits(2, a) * 1000000000, whole)
                self.assertEqual(wl_waits(2, a), [0, whole])


class OfWaits(Answers, unittest.TestCase):
    call = staticmethod(wl_waits)
    signature = "(c, a)"
    taken = ((1, 0), (1, 1), (1, 999999), (2, 1000000), (40, 33000000), (256, 0), (256, 255999999))
    refused = (
        ((0, 0), -2), ((0, 1), -2), ((257, 1), -2), ((MOST, 1), -2), ((1, 1000000001), -2), ((1, MOST), -2),
        ((0, MOST), -2), ((MOST, MOST), -2), ((1, 1000000), -6), ((2, 2000000), -6), ((256, 256000000), -6),
        ((256, 1000000000), -6),
    )

    def test_the_first_number_is_0(self):
        for c, a in self.taken:
            answer = wl_waits(c, a)
            self.assertEqual(answer[0], 0)
            self.assertLessEqual(answer[1], 1000000000)

    def test_arguments_by_name(self):
        self.assertEqual(wl_waits(a=500000, c=2), [0, 100000000])


if __name__ == "__main__":
    unittest.main()
