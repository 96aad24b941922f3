"""wl_run, held against the document's words carried out customer by customer, and time by time."""

import itertools
import random
import unittest

from tests.answers import Answers, LongLists
from tests.exact import plain_run, run_by_ticks
from waiting.lines import wl_run

LAST = 2 ** 62
LONGEST = 4294967295
MOST_TIME = 2 ** 64 - 1
MOST = 16000


def times(n, seed, most):
    numbers = random.Random(seed)
    return sorted(numbers.randint(0, most) for i in range(n))


def needs(n, seed, most):
    numbers = random.Random(seed)
    return [numbers.randint(0, most) for i in range(n)]


class Against(LongLists, unittest.TestCase):
    def check(self, c, come, need):
        with self.subTest(c=c, come=come[:20], need=need[:20], n=len(come)):
            self.assertEqual(wl_run(c, come, need), [0] + plain_run(c, come, need))


class Ordinary(Against):
    def test_known_by_hand(self):
        # One server: each begins when it's there and the one before it is done.
        self.assertEqual(wl_run(1, [0, 1, 2], [5, 5, 5]), [0, 0, 5, 10])
        self.assertEqual(wl_run(1, [0, 10, 11], [5, 5, 5]), [0, 0, 10, 15])
        # Two servers, free at 10 and at 6: the third begins at 6 and is done at 7, where the fourth begins.
        self.assertEqual(wl_run(2, [0, 1, 2, 3], [10, 5, 1, 9]), [0, 0, 1, 6, 7])
        # The first server is free long before the second one.
        self.assertEqual(wl_run(2, [0, 0, 0, 0, 0], [1, 100, 1, 1, 1]), [0, 0, 0, 1, 2, 3])
        # Three servers, free at 3, 9 and 4.
        self.assertEqual(wl_run(3, [0, 0, 0, 0, 0, 0], [3, 9, 4, 3, 7, 1]), [0, 0, 0, 0, 3, 4, 6])
        # Done just when the next one comes.
        self.assertEqual(wl_run(1, [7, 12, 17], [5, 5, 5]), [0, 7, 12, 17])
        self.assertEqual(wl_run(1, [7, 12, 16], [5, 5, 5]), [0, 7, 12, 17])

    def test_a_later_one_does_not_overtake(self):
        # The second, who waits till 100, is long; the third, who is short, is behind it all the same.
        self.assertEqual(wl_run(1, [0, 1, 2], [100, 1000, 1]), [0, 0, 100, 1100])
        self.assertEqual(wl_run(2, [0, 0, 1, 2], [50, 60, 1000, 1]), [0, 0, 0, 50, 60])

    def test_all_small_ones_time_by_time(self):
        for n in range(5):
            for come in itertools.combinations_with_replacement(range(4), n):
                for need in itertools.product((0, 1, 3), repeat=n):
                    for c in (1, 2, 3):
                        told = wl_run(c, list(come), list(need))
                        self.assertEqual(told, [0] + run_by_ticks(c, come, need), (c, come, need))

    def test_mixed_ones_time_by_time(self):
        for seed in range(300):
            numbers = random.Random(seed)
            n, c = numbers.randint(1, 60), numbers.choice((1, 2, 3, 5, 8, 64))
            come, need = times(n, seed, numbers.choice((5, 30, 100))), needs(n, seed, numbers.choice((3, 10, 40)))
            self.assertEqual(wl_run(c, come, need), [0] + run_by_ticks(c, come, need), (c, come, need))

    def test_fewer_as_many_and_more_customers_than_servers(self):
        for c in (1, 2, 3, 7, 63, 64):
            for n in (1, c - 1, c, c + 1, 2 * c, 2 * c + 1, 5 * c + 3):
                self.check(c, [0] * n, needs(n, n, 1000))
                self.check(c, times(n, n, 50), needs(n, n + 1, 1000))
                self.check(c, times(n, n, 100000), needs(n, n + 2, 100))

    def test_every_c(self):
        come, need = times(300, 1, 1000), needs(300, 2, 500)
        for c in range(1, 65):
            self.check(c, come, need)

    def test_all_at_once(self):
        for c in (1, 2, 64):
            for when in (0, 1, 1000000, LAST):
                self.check(c, [when] * 200, needs(200, c, 1000))
                alike = wl_run(c, [when] * 200, [10] * 200)
                self.assertEqual(alike, [0] + [when + 10 * (i // c) for i in range(200)])

    def test_far_apart(self):
        # Each is done before the next one comes: none waits.
        come = [LONGEST * i for i in range(500)]
        for c in (1, 2, 64):
            self.assertEqual(wl_run(c, come, [LONGEST] * 500), [0] + come)
            self.assertEqual(wl_run(c, come, needs(500, 9, LONGEST)), [0] + come)

    def test_as_many_servers_as_customers(self):
        come = times(64, 5, 1000)
        self.assertEqual(wl_run(64, come, [LONGEST] * 64), [0] + come)
        # One more: it waits for the one that's done first.
        self.assertEqual(wl_run(64, come + [1000], [LONGEST] * 65), [0] + come + [come[0] + LONGEST])

    def test_the_one_that_is_free_first_is_any_of_them(self):
        # All servers are long busy but one, at each place.
        for c in (1, 2, 5, 64):
            for k in range(c):
                need = [1000] * k + [10] + [1000] * (c - 1 - k)
                self.assertEqual(wl_run(c, [0] * (c + 2), need + [20, 5]), [0] + [0] * c + [10, 30])

    def test_needs_of_nothing(self):
        for c in (1, 2, 64):
            come = times(100, c, 30)
            self.assertEqual(wl_run(c, come, [0] * 100), [0] + come)
            self.check(c, come, [0, 7] * 50)
        self.assertEqual(wl_run(1, [3, 3, 3, 3], [0, 4, 0, 0]), [0, 3, 3, 7, 7])

    def test_the_longest_needs(self):
        self.assertEqual(wl_run(1, [0, 0, 0], [LONGEST] * 3), [0, 0, LONGEST, 2 * LONGEST])
        for c in (1, 3, 64):
            self.check(c, times(300, c, 1000), [LONGEST] * 300)
            self.check(c, times(300, c, LONGEST), [0, 1, LONGEST] * 100)

    def test_mixed_needs_and_times(self):
        for c in (1, 2, 17, 64):
            for most in (10, 10 ** 6, 10 ** 12, LAST):
                for longest in (0, 3, 10 ** 5, LONGEST):
                    self.check(c, times(200, most + c, most), needs(200, longest + c, longest))


class Long(Against):
    def test_16000_customers(self):
        for c in (1, 2, 64):
            self.check(c, times(MOST, 1, 10 ** 7), needs(MOST, 2, 1000 * c))
            self.check(c, times(MOST, 3, LAST), needs(MOST, 4, LONGEST))
            self.check(c, [0] * MOST, needs(MOST, 5, LONGEST))

    def test_16000_told_by_hand(self):
        self.assertEqual(wl_run(1, [0] * MOST, [LONGEST] * MOST), [0] + [LONGEST * i for i in range(MOST)])
        self.assertEqual(wl_run(64, [0] * MOST, [LONGEST] * MOST), [0] + [LONGEST * (i // 64) for i in range(MOST)])
        self.assertEqual(wl_run(1, [LAST] * MOST, [1] * MOST), [0] + [LAST + i for i in range(MOST)])
        self.assertEqual(wl_run(64, [5] * MOST, [0] * MOST), [0] + [5] * MOST)


class Edges(Against):
    def test_c_without_customers(self):
        for c in (-2147483648, -65, -64, -1, 0, 65, 66, 2147483647):
            self.assertEqual(wl_run(c, [], []), [-2])
        for c in range(1, 65):
            self.assertEqual(wl_run(c, [], []), [0])

    def test_first_and_last_c(self):
        for c in (1, 2, 63, 64):
            self.check(c, [0], [5])
            self.check(c, [0] * 130, list(range(130, 0, -1)))

    def test_more_customers_than_65536(self):
        # No lists that long are handed in, but the document names the refusal, and says that it comes first.
        self.assertEqual(wl_run(1, [0] * 65537, [0] * 65537), [-2])
        self.assertEqual(wl_run(1, [1] + [0] * 65536, [0] * 65537), [-2])
        self.assertEqual(wl_run(1, [0] * 65536, [1] * 65536), [0] + list(range(65536)))

    def test_the_first_refusal_comes_first(self):
        # With such a c no lists with numbers are handed in, either.
        for c in (-1, 0, 65):
            self.assertEqual(wl_run(c, [1, 0], [1, 1]), [-2])
            self.assertEqual(wl_run(c, [LAST + 1], [1]), [-2])

    def test_times_alike_are_in_order(self):
        self.assertEqual(wl_run(2, [4, 4, 4], [1, 2, 3]), [0, 4, 4, 5])
        self.assertEqual(wl_run(1, [LAST, LAST], [0, 0]), [0, LAST, LAST])

    def test_a_time_one_below_the_one_before_it(self):
        for c in (1, 64):
            for n in (2, 3, 4, 5, 100, MOST):
                for place in sorted({1, n // 2, n - 1}):
                    with self.subTest(c=c, n=n, place=place):
                        apart = [10 * i + 1 for i in range(n)]
                        for come in ([7] * n, apart):
                            self.assertEqual(wl_run(c, come, [1] * n)[0], 0)
                            one_below = come[:place] + [come[place - 1] - 1] + come[place + 1:]
                            self.assertEqual(wl_run(c, one_below, [1] * n), [-1])
                        self.assertEqual(wl_run(c, [7] * place + [6] * (n - place), [1] * n), [-1])

    def test_each_pair_is_looked_at(self):
        n = 100
        for place in range(1, n):
            self.assertEqual(wl_run(3, [9] * place + [8] + [9] * (n - 1 - place), [0] * n), [-1])

    def test_order_is_asked_of_the_times_and_not_of_the_begins(self):
        # Both would begin at 100 or later, and the third comes before the second.
        self.assertEqual(wl_run(1, [0, 50, 40], [100, 1, 1]), [-1])
        self.assertEqual(wl_run(64, [1, 0], [0, 0]), [-1])

    def test_the_last_time(self):
        for c in (1, 64):
            for when in (LAST + 1, LAST + 2, 2 ** 63, MOST_TIME):
                for before in ([], [0], [0] * 100, [LAST], [LAST] * 100):
                    with self.subTest(c=c, when=when, before=before):
                        n = len(before) + 1
                        self.assertEqual(wl_run(c, before + [when], [1] * n), [-1])
                        self.assertEqual(wl_run(c, before + [when] * 3, [1] * (n + 2)), [-1])
                        self.assertEqual(wl_run(c, [when] + before, [1] * n), [-1])
                        self.assertEqual(wl_run(c, before + [when] + before, [1] * (2 * n - 1)), [-1])
            for when in (LAST - 1, LAST):
                self.assertEqual(wl_run(c, [when], [1]), [0, when])
                self.check(c, [0, 1, when], [LONGEST] * 3)
                self.check(c, [when] * 100, [LONGEST] * 100)

    def test_every_time_above_the_last(self):
        self.assertEqual(wl_run(1, [MOST_TIME] * 5, [0] * 5), [-1])
        self.assertEqual(wl_run(1, list(range(LAST + 1, LAST + 6)), [0] * 5), [-1])

    def test_beginning_above_the_last_time(self):
        self.assertEqual(wl_run(1, [LAST, LAST], [1, 1]), [0, LAST, LAST + 1])
        self.assertEqual(wl_run(1, [LAST - 1, LAST - 1, LAST], [1, LONGEST, 0]), [0, LAST - 1, LAST, LAST + LONGEST])
        told = wl_run(64, [LAST] * MOST, [LONGEST] * MOST)
        self.assertEqual(told, [0] + [LAST + LONGEST * (i // 64) for i in range(MOST)])
        told = wl_run(1, [LAST] * MOST, [LONGEST] * MOST)
        self.assertEqual(told[-1], LAST + 15999 * LONGEST)

    def test_time_0(self):
        self.assertEqual(wl_run(1, [0], [0]), [0, 0])
        self.assertEqual(wl_run(2, [0, 0, 0], [0, 0, 0]), [0, 0, 0, 0])


class OfRun(Answers, unittest.TestCase):
    call = staticmethod(wl_run)
    signature = "(c, come, need)"
    taken = (
        (1, [], []), (64, [], []), (1, [0], [0]), (64, [LAST], [LONGEST]), (2, [0, 1, 2, 3], [10, 5, 1, 9]),
        (1, [LAST] * 3, [LONGEST] * 3), (5, times(500, 1, 1000), needs(500, 2, 100)),
        (1, times(MOST, 1, 10 ** 6), needs(MOST, 2, 100)), (64, times(MOST, 3, LAST), needs(MOST, 4, LONGEST)),
    )
    refused = (
        ((-2147483648, [], []), -2), ((-1, [], []), -2), ((0, [], []), -2), ((65, [], []), -2),
        ((2147483647, [], []), -2), ((1, [1, 0], [0, 0]), -1), ((64, [5, 5, 4], [1, 1, 1]), -1),
        ((1, [LAST + 1], [0]), -1), ((64, [0, MOST_TIME], [0, 0]), -1),
        ((2, [0] * 15999 + [MOST_TIME], [1] * MOST), -1),
    )

    def told(self, c, come, need):
        return len(come)

    def test_the_first_number_is_0(self):
        for arguments in self.taken:
            self.assertEqual(wl_run(*arguments)[0], 0)

    def test_arguments_by_name(self):
        self.assertEqual(wl_run(need=[5, 5], come=[0, 1], c=1), [0, 0, 5])

    def test_one_list_as_both(self):
        both = [0, 1, 2, 4]
        self.assertEqual(wl_run(1, both, both), [0, 0, 1, 2, 4])
        self.assertEqual(both, [0, 1, 2, 4])


if __name__ == "__main__":
    unittest.main()
