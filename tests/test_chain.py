"""wl_chain, held against the parts that the document asks for, computed with fractions."""

import random
import unittest
from fractions import Fraction

from tests.answers import Answers, LongLists
from tests.exact import comes, exact_chain, goes, nearest_even
from waiting.lines import wl_chain

MOST = 4294967295
FASTEST = 1000000
ONE = 1000000000


def mixed(n, seed, most=FASTEST):
    numbers = random.Random(seed)
    return [numbers.randint(1, most) for i in range(n)]


class Against(LongLists, unittest.TestCase):
    def check(self, up, down):
        n = len(up)
        with self.subTest(up=up, down=down):
            parts = exact_chain(up, down)
            self.assertEqual(len(parts), n + 1)
            self.assertEqual(sum(parts), 1)
            for i in range(n + 1):
                self.assertGreater(parts[i], 0)
                self.assertEqual(goes(up, down, parts, i), comes(up, down, parts, i))
            self.assertEqual(wl_chain(up, down), [0] + [nearest_even(part) for part in parts])


class Ordinary(Against):
    def test_known_by_hand(self):
        self.assertEqual(wl_chain([1], [1]), [0, 500000000, 500000000])
        # What goes up is 3 times as fast as what goes down: a quarter and three quarters.
        self.assertEqual(wl_chain([3], [1]), [0, 250000000, 750000000])
        self.assertEqual(wl_chain([1], [3]), [0, 750000000, 250000000])
        # The states stand as 1 to 2 to 1.
        self.assertEqual(wl_chain([2, 1], [1, 2]), [0, 250000000, 500000000, 250000000])
        # As 1 to 2 to 6.
        self.assertEqual(wl_chain([2, 3], [1, 1]), [0, 111111111, 222222222, 666666667])
        # As 10 to 5 to 15 to 6.
        self.assertEqual(wl_chain([1, 3, 2], [2, 1, 5]), [0, 277777778, 138888889, 416666667, 166666667])

    def test_lines_as_a_chain(self):
        # Load 2 at 4 lines: the states stand as 1, 2, 2, 4 / 3 and 2 / 3, which come to 7.
        self.assertEqual(wl_chain([2] * 4, [1, 2, 3, 4]),
                         [0, 142857143, 285714286, 285714286, 190476190, 95238095])

    def test_one_step(self):
        for up in (1, 2, 3, 7, 999, 1024, 65537, 999999, FASTEST):
            for down in (1, 2, 3, 7, 999, 1024, 65537, 999999, FASTEST):
                self.check([up], [down])

    def test_two_steps(self):
        for first in (1, 2, 5, FASTEST):
            for second in (1, 3, FASTEST):
                for third in (1, 4, FASTEST):
                    for fourth in (1, 7, FASTEST):
                        self.check([first, second], [third, fourth])

    def test_small_n(self):
        for n in range(1, 20):
            for most in (3, 20, FASTEST):
                self.check(mixed(n, 100 * n, most), mixed(n, 100 * n + 1, most))

    def test_large_n(self):
        for n in (100, 255, 256):
            for most in (2, 10, FASTEST):
                self.check(mixed(n, n, most), mixed(n, n + 1, most))

    def test_all_alike(self):
        for n in (1, 2, 3, 9, 255, 256):
            for number in (1, 2, 999983, FASTEST):
                with self.subTest(n=n, number=number):
                    part = nearest_even(Fraction(1, n + 1))
                    self.assertEqual(wl_chain([number] * n, [number] * n), [0] + [part] * (n + 1))

    def test_all_alike_in_each_list(self):
        for n in (1, 2, 17, 255, 256):
            for up, down in ((1, 2), (3, 2), (7, 10), (1, FASTEST), (FASTEST, 1), (999999, FASTEST), (FASTEST, 999999)):
                self.check([up] * n, [down] * n)

    def test_each_place_counts_by_itself(self):
        # Only between i and i + 1 is one way faster: below, all states are alike, and above, too.
        n = 256
        for i in (0, 1, 127, 254, 255):
            with self.subTest(i=i):
                one = [1] * n
                faster = [1] * i + [2] + [1] * (n - 1 - i)
                below, above = i + 1, n - i
                light = nearest_even(Fraction(1, below + 2 * above))
                heavy = nearest_even(Fraction(2, below + 2 * above))
                self.assertEqual(wl_chain(faster, one), [0] + [light] * below + [heavy] * above)
                light = nearest_even(Fraction(1, 2 * below + above))
                heavy = nearest_even(Fraction(2, 2 * below + above))
                self.assertEqual(wl_chain(one, faster), [0] + [heavy] * below + [light] * above)

    def test_seen_from_the_other_end(self):
        for n in (1, 2, 5, 31, 256):
            up, down = mixed(n, n, 50), mixed(n, n + 7, 50)
            there = wl_chain(up, down)
            back = wl_chain(down[::-1], up[::-1])
            self.assertEqual(there[1:], back[:0:-1])

    def test_all_faster_by_as_much_is_the_same(self):
        up, down = mixed(40, 1, 1000), mixed(40, 2, 1000)
        times = [1000, 3, 1, 500] * 10
        faster_up = [up[i] * times[i] for i in range(40)]
        faster_down = [down[i] * times[i] for i in range(40)]
        self.assertEqual(wl_chain(up, down), wl_chain(faster_up, faster_down))

    def test_one_list_as_both(self):
        for n in (1, 3, 256):
            both = mixed(n, n)
            self.assertEqual(wl_chain(both, both), [0] + [nearest_even(Fraction(1, n + 1))] * (n + 1))


class FarApart(Against):
    def test_up_far_above_down(self):
        # 999999000 is as much as a part can be: of the state beside it there's at least a millionth of that.
        self.assertEqual(wl_chain([FASTEST], [1]), [0, 1000, 999999000])
        self.assertEqual(wl_chain([FASTEST] * 2, [1] * 2), [0, 0, 1000, 999999000])
        for n in (3, 255, 256):
            self.assertEqual(wl_chain([FASTEST] * n, [1] * n), [0] + [0] * (n - 1) + [1000, 999999000])
            self.check([FASTEST] * n, [1] * n)

    def test_down_far_above_up(self):
        self.assertEqual(wl_chain([1], [FASTEST]), [0, 999999000, 1000])
        self.assertEqual(wl_chain([1] * 2, [FASTEST] * 2), [0, 999999000, 1000, 0])
        for n in (3, 255, 256):
            self.assertEqual(wl_chain([1] * n, [FASTEST] * n), [0, 999999000, 1000] + [0] * (n - 1))
            self.check([1] * n, [FASTEST] * n)

    def test_to_the_middle_and_to_both_ends(self):
        n = 256
        fast, slow = [FASTEST] * (n // 2), [1] * (n // 2)
        to_the_middle = wl_chain(fast + slow, slow + fast)
        # Of 1000000 and 1 on either side: 1000000 / 1000002 and 1 / 1000002.
        self.assertEqual(to_the_middle[n // 2: n // 2 + 3], [1000, 999998000, 1000])
        self.assertEqual(sum(to_the_middle), 1000000000)
        to_the_ends = wl_chain(slow + fast, fast + slow)
        self.assertEqual(to_the_ends[1:3], [499999500, 500])
        self.assertEqual(to_the_ends[-2:], [500, 499999500])
        self.assertEqual(to_the_ends[3:-2], [0] * (n - 3))
        self.check(fast + slow, slow + fast)
        self.check(slow + fast, fast + slow)

    def test_there_and_back(self):
        # Turn by turn far up and far down: of every second state there's next to nothing.
        up, down = [FASTEST, 1] * 128, [1, FASTEST] * 128
        self.check(up, down)
        self.check(down, up)


class Edges(Against):
    def test_no_step(self):
        self.assertEqual(wl_chain([], []), [-2])

    def test_more_steps_than_256(self):
        # No such lists are handed in, but the document names the refusal, and says that it comes first.
        self.assertEqual(wl_chain([1] * 257, [1] * 257), [-2])
        self.assertEqual(wl_chain([0] * 257, [0] * 257), [-2])

    def test_first_and_last_n(self):
        for n in (1, 2, 255, 256):
            self.check([1] * n, [1] * n)
            self.check([FASTEST] * n, [FASTEST] * n)
            self.check(mixed(n, 3 * n), mixed(n, 5 * n))

    def test_a_number_at_its_edges_at_each_place(self):
        for n, places in ((1, (0,)), (2, (0, 1)), (3, (0, 1, 2)), (255, (0, 127, 254)), (256, (0, 128, 255))):
            for place in places:
                for number in (0, 1, FASTEST, FASTEST + 1, MOST):
                    inside = 5
                    plain = [inside] * n
                    edge = [inside] * place + [number] + [inside] * (n - 1 - place)
                    for up, down in ((edge, plain), (plain, edge), (edge, edge)):
                        with self.subTest(n=n, place=place, number=number, up=up is edge, down=down is edge):
                            if number in (1, FASTEST):
                                self.check(up, down)
                            else:
                                self.assertEqual(wl_chain(up, down), [-1])

    def test_each_place_is_looked_at(self):
        for place in range(256):
            for number in (0, FASTEST + 1):
                edge = [1] * place + [number] + [1] * (255 - place)
                self.assertEqual(wl_chain(edge, [1] * 256), [-1])
                self.assertEqual(wl_chain([1] * 256, edge), [-1])

    def test_two_wrong_at_once(self):
        self.assertEqual(wl_chain([0, 1], [1, MOST]), [-1])
        self.assertEqual(wl_chain([1, MOST], [0, 1]), [-1])
        self.assertEqual(wl_chain([0, MOST], [1, 1]), [-1])
        self.assertEqual(wl_chain([0] * 256, [0] * 256), [-1])
        self.assertEqual(wl_chain([MOST] * 256, [MOST] * 256), [-1])


class Halves(Against):
    def test_to_the_even_one(self):
        # 1 / 1024 is 976562 and a half, 1023 / 1024 is 999023437 and a half.
        self.assertEqual(wl_chain([1], [1023]), [0, 999023438, 976562])
        self.assertEqual(wl_chain([1023], [1]), [0, 976562, 999023438])
        # 3 / 1024 is 2929687 and a half, 1021 / 1024 is 997070312 and a half.
        self.assertEqual(wl_chain([3], [1021]), [0, 997070312, 2929688])
        # 1 / 640000 is 1562 and a half, 3 / 640000 is 4687 and a half.
        self.assertEqual(wl_chain([1], [639999]), [0, 999998438, 1562])
        self.assertEqual(wl_chain([3], [639997]), [0, 999995312, 4688])

    def test_every_half_of_1024(self):
        for up in range(1, 1024, 2):
            self.check([up], [1024 - up])

    def test_halves_of_greater_wholes(self):
        for whole in (5120, 25600, 128000, 640000, 1920000):
            for up in (whole // 2 - 3, whole // 2 - 1, whole // 2 + 1, whole // 2 + 5):
                self.check([up], [whole - up])

    def test_each_part_by_itself(self):
        # Two halves that both go down: what is told comes to 1 less than 1000000000.
        self.assertEqual(wl_chain([1, 1022], [1, 1]), [0, 976562, 976562, 998046875])
        # Two that both go up: 1 more.
        self.assertEqual(wl_chain([1, 1018], [1, 3]), [0, 2929688, 2929688, 994140625])
        # Each of 256 goes down by a half.
        self.assertEqual(wl_chain([1] * 255 + [768], [1] * 256), [0] + [976562] * 256 + [750000000])
        # And where no half is: thirds and sevenths.
        self.assertEqual(wl_chain([1, 1], [1, 1]), [0, 333333333, 333333333, 333333333])
        self.assertEqual(wl_chain([1] * 6, [1] * 6), [0] + [142857143] * 7)

    def test_at_next_below_and_next_above_a_half(self):
        # State by state 1024 / m down, the last one so that all come to 1024 / (1024 - m) of state 0:
        # then state 0 has a half. One more or less in the last place is the less far from it, the longer n is.
        for m in (1, 3, 5, 511, 1021):
            half = Fraction((1024 - m) * ONE, 1024)
            self.assertEqual(half % 1, Fraction(1, 2))
            for n in (1, 2, 3, 4, 17, 255, 256):
                for beside in (-1, 0, 1):
                    with self.subTest(m=m, n=n, beside=beside):
                        up, down = [m] * n, [1024] * (n - 1) + [1024 - m + beside]
                        exact = exact_chain(up, down)[0] * ONE
                        self.assertEqual((exact > half) - (exact < half), beside)
                        self.check(up, down)
                        self.check(down[::-1], up[::-1])

    def test_told_by_hand_next_to_a_half(self):
        # 1023 / 1024 is 999023437 and a half, 1021 / 1024 is 997070312 and a half.
        for m, below, at, above in ((1, 999023437, 999023438, 999023438), (3, 997070312, 997070312, 997070313)):
            for beside, told in ((-1, below), (0, at), (1, above)):
                answer = wl_chain([m] * 256, [1024] * 255 + [1024 - m + beside])
                self.assertEqual(answer[:2], [0, told])


class OfChain(Answers, unittest.TestCase):
    call = staticmethod(wl_chain)
    signature = "(up, down)"
    taken = (
        ([1], [1]), ([FASTEST], [1]), ([1], [FASTEST]), ([2, 3], [5, 7]), ([1] * 255, [3] * 255),
        ([FASTEST] * 256, [1] * 256), ([1] * 256, [FASTEST] * 256), (mixed(256, 1), mixed(256, 2)),
    )
    refused = (
        (([], []), -2), (([0], [1]), -1), (([1], [0]), -1), (([0], [0]), -1), (([FASTEST + 1], [1]), -1),
        (([1], [FASTEST + 1]), -1), (([MOST], [1]), -1), (([1], [MOST]), -1), (([1] * 255 + [0], [1] * 256), -1),
        (([1] * 256, [1] * 255 + [MOST]), -1),
    )

    def told(self, up, down):
        return len(up) + 1

    def test_the_first_number_is_0(self):
        for up, down in self.taken:
            self.assertEqual(wl_chain(up, down)[0], 0)

    def test_arguments_by_name(self):
        self.assertEqual(wl_chain(down=[1], up=[3]), [0, 250000000, 750000000])


if __name__ == "__main__":
    unittest.main()
