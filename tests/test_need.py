"""wl_need, held against the document's formula computed with fractions. No answer above 399 is asked for."""

import unittest
from fractions import Fraction

from tests.answers import Answers
from tests.exact import exact_lost, exact_need
from waiting.lines import wl_lost, wl_need

MOST = 4294967295
ALL = 1000000000


def share(p):
    return Fraction(p, ALL)


class Ordinary(unittest.TestCase):
    def check(self, a, p):
        with self.subTest(a=a, p=p):
            c = exact_need(a, p)
            self.assertLessEqual(c, 399)
            self.assertEqual(wl_need(a, p), [c])

    def check_around(self, a, p, c):
        """By the document's formula itself: of c lines no more is lost than p says, of one line less there is."""
        with self.subTest(a=a, p=p):
            self.assertEqual(wl_need(a, p), [c])
            self.assertLessEqual(exact_lost(c, a), share(p))
            self.assertGreater(exact_lost(c - 1, a), share(p))

    def test_known_by_hand(self):
        # Load 1: of 0, 1, 2, 3, 4 lines 1, 1 / 2, 1 / 5, 1 / 16, 1 / 65 is lost.
        for p, c in ((ALL, 0), (999999999, 1), (600000000, 1), (300000000, 2), (100000000, 3), (20000000, 4)):
            self.assertEqual(wl_need(1000000, p), [c])

    def test_small_loads(self):
        for a in (1, 2, 31, 32, 999, 1001, 31623, 500000, 999999, 1000000, 1000001, 3141593, 8000000):
            for p in (1, 2, 999, 1000, 1001, 1000000, 10000000, 123456789, 500000000, 900000000, 999999999, ALL):
                self.check(a, p)

    def test_large_loads(self):
        for a in (50000000, 99999999, 123456789, 200000000, 280000001):
            for p in (1, 1000, 1000000, 50000000, 500000000, 990000000, 999999999, ALL):
                self.check(a, p)
        for a in (400000000, 561234567, 700000001, 999999999, 1000000000):
            for p in (700000000, 800000000, 999000000, 999001000, 999999999, ALL):
                self.check(a, p)

    def test_many_loads(self):
        # Steps by a prime, so that the loads share few factors with a million.
        for p in (1, 12345, 10000000, 300000000):
            for a in range(1, 20000000, 199999):
                self.check(a, p)

    def test_many_parts(self):
        for a in (700000, 5000000, 42000000):
            for p in range(1, ALL, 7654321):
                self.check(a, p)

    def test_by_the_formula_itself(self):
        for a, p, c in ((1, 1, 2), (1000000, 1, 12), (10000000, 10000000, 18), (100000000, 10000000, 117),
                        (1000000000, 999000000, 2)):
            self.check_around(a, p, c)

    def test_not_the_rounded_part(self):
        # Of 1 line under half a load 333333333.33.. is lost, which is rounded to 333333333.
        self.assertEqual(wl_lost(1, 500000), [0, 333333333])
        self.assertEqual(wl_need(500000, 333333333), [2])
        self.assertEqual(wl_need(500000, 333333334), [1])
        # Of 1 line under a load of 2 666666666.66.. is lost, which is rounded to 666666667.
        self.assertEqual(wl_lost(1, 2000000), [0, 666666667])
        self.assertEqual(wl_need(2000000, 666666667), [1])
        self.assertEqual(wl_need(2000000, 666666666), [2])


class JustAsMuch(unittest.TestCase):
    # Of c lines under this load just p is lost. These are all that were found of 2 to 60 lines.
    several_lines = ((2, 1000000, 200000000), (2, 2000000, 400000000), (2, 4500000, 648000000),
                     (2, 6000000, 720000000), (3, 1000000, 62500000))
    one_line = ((1000000, 500000000), (250000, 200000000), (4000000, 800000000), (9000000, 900000000),
                (600000, 375000000), (999000000, 999000000))

    def check(self, c, a, p):
        with self.subTest(c=c, a=a, p=p):
            self.assertEqual(exact_lost(c, a), share(p))
            self.assertEqual(wl_need(a, p + 1), [c])
            self.assertEqual(wl_need(a, p), [c])
            self.assertEqual(wl_need(a, p - 1), [c + 1])

    def test_just_as_much_of_one_line(self):
        for a, p in self.one_line:
            self.check(1, a, p)

    def test_just_as_much_of_several_lines(self):
        for c, a, p in self.several_lines:
            self.check(c, a, p)

    def test_just_as_much_of_no_lines(self):
        for a in (1, 1000000, 1000000000):
            self.assertEqual(wl_need(a, ALL), [0])
            self.assertEqual(wl_need(a, ALL - 1), [1])

    # Of c lines a little more than p is lost, or a little less than p + 1: by 0.0001 or less.
    a_little_more = ((1, 3627441, 783897839), (2, 336235, 40586251), (3, 2961867, 341561047), (5, 2164700, 46549436),
                     (12, 7984134, 50957592), (60, 50272782, 23002818), (398, 500019243, 211209812),
                     (398, 380019281, 15870685))
    a_little_less = ((1, 2699963, 729727026), (2, 2103363, 416159662), (3, 694937, 28075105), (5, 4721448, 261857662),
                     (12, 7053625, 28170295), (60, 50104472, 22173813), (398, 500005907, 211189589),
                     (398, 380009797, 15861175))

    def test_nearly_as_much(self):
        for cases, middle in ((self.a_little_more, 0), (self.a_little_less, 1)):
            for c, a, p in cases:
                with self.subTest(c=c, a=a, p=p):
                    self.assertLess(abs(exact_lost(c, a) * ALL - p - middle), Fraction(1, 10000))
                    self.assertTrue(share(p) < exact_lost(c, a) < share(p + 1))
                    self.assertEqual(wl_need(a, p + 1), [c])
                    self.assertEqual(wl_need(a, p), [c + 1])


class Ends(unittest.TestCase):
    def test_of_no_lines_all_is_lost(self):
        for a in (0, 1, 2, 999999, 1000000, 123456789, 999999999, 1000000000):
            self.assertEqual(wl_need(a, ALL), [0])

    def test_without_a_load_one_line_loses_nothing(self):
        for p in (1, 2, 500000000, 999999998, 999999999):
            self.assertEqual(wl_need(0, p), [1])

    def test_one_line_for_a_large_load(self):
        # 1000 / 1001 is 0.99900099900..
        self.assertEqual(wl_need(1000000000, 999001000), [1])
        self.assertEqual(wl_need(1000000000, 999000999), [2])

    def test_399(self):
        # The largest load for each p of which 399 lines will do.
        for a, p in ((294105465, 1), (296073870, 2), (316583478, 1000), (352045875, 1000000), (434704492, 100000000),
                     (796009878, 500000000)):
            with self.subTest(a=a, p=p):
                self.assertEqual(wl_need(a, p), [399])
                self.assertLessEqual(exact_lost(399, a), share(p))
                self.assertGreater(exact_lost(398, a), share(p))
                self.assertGreater(exact_lost(399, a + 1), share(p))

    def test_399_under_the_largest_load(self):
        # All p of which the answer is 399 there: from the first of these to the second, and then it's 398.
        self.assertEqual(wl_need(1000000000, 601660256), [399])
        self.assertEqual(wl_need(1000000000, 602657518), [399])
        self.assertEqual(wl_need(1000000000, 602657519), [398])
        self.assertTrue(share(601660255) < exact_lost(399, 1000000000) <= share(601660256))
        self.assertTrue(share(602657518) < exact_lost(398, 1000000000) <= share(602657519))

    def test_answers_from_1_to_399(self):
        # Under the largest load, of some c the least p that it meets; 256, where wl_lost ends, is no edge here.
        for c in (1, 2, 3, 4, 19, 50, 100, 128, 200, 254, 255, 256, 257, 258, 300, 350, 396, 397, 398, 399):
            with self.subTest(c=c):
                scaled = exact_lost(c, 1000000000) * ALL
                p = -(-scaled.numerator // scaled.denominator)
                self.assertEqual(wl_need(1000000000, p), [c])


class Edges(unittest.TestCase):
    all_a = (0, 1, 1000000000, 1000000001, MOST)
    all_p = (0, 1, ALL, ALL + 1, MOST)

    def test_each_edge_with_each(self):
        taken = {(0, 1): 1, (1, 1): 2, (0, ALL): 0, (1, ALL): 0, (1000000000, ALL): 0}
        for a in self.all_a:
            for p in self.all_p:
                # Of this pair the answer would be above 399, so it isn't asked.
                if (a, p) != (1000000000, 1):
                    with self.subTest(a=a, p=p):
                        self.assertEqual(wl_need(a, p), [taken.get((a, p), -2)])

    def test_each_edge_with_one_well_inside(self):
        for p in (0, ALL + 1, MOST):
            self.assertEqual(wl_need(5000000, p), [-2])
        for p in (1, ALL):
            self.assertEqual(wl_need(5000000, p), [exact_need(5000000, p)])
        for a in (0, 1, 1000000000):
            self.assertEqual(wl_need(a, 700000000), [exact_need(a, 700000000)])
        for a in (1000000001, MOST):
            self.assertEqual(wl_need(a, 700000000), [-2])


class OfNeed(Answers, unittest.TestCase):
    call = staticmethod(wl_need)
    signature = "(a, p)"
    taken = ((0, 1), (0, ALL), (1, 1), (1000000, 500000000), (1000000, 499999999), (1000000000, ALL),
             (1000000000, 601660256), (294105465, 1))
    refused = (
        ((0, 0), -2), ((1, 0), -2), ((1000000000, 0), -2), ((0, ALL + 1), -2), ((0, MOST), -2),
        ((1000000001, 1), -2), ((1000000001, ALL), -2), ((MOST, 1), -2), ((MOST, 0), -2), ((MOST, MOST), -2),
    )

    def told(self, a, p):
        return 0

    def test_arguments_by_name(self):
        self.assertEqual(wl_need(p=500000000, a=1000000), [1])


if __name__ == "__main__":
    unittest.main()
