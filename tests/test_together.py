"""What the document says over all five functions."""

import importlib.util
import random
import unittest

from tests.answers import LongLists, state
from waiting import lines

CALLS = (
    ("wl_lost", (2, 1000000)), ("wl_lost", (1, 1023)), ("wl_lost", (256, 1000000000)), ("wl_lost", (0, 1)),
    ("wl_lost", (5, 4294967295)),
    ("wl_waits", (2, 1000000)), ("wl_waits", (1, 999999)), ("wl_waits", (256, 255999999)), ("wl_waits", (257, 1)),
    ("wl_waits", (2, 2000000)),
    ("wl_need", (1000000, 500000000)), ("wl_need", (1000000, 1)), ("wl_need", (0, 1)), ("wl_need", (1000000, 0)),
    ("wl_need", (1000000001, 1)),
    ("wl_chain", ([2, 1], [1, 2])), ("wl_chain", ([1], [1023])), ("wl_chain", ([3] * 256, [1000000] * 256)),
    ("wl_chain", ([], [])), ("wl_chain", ([1, 0], [1, 1])), ("wl_chain", ([1, 1], [1, 1000001])),
    ("wl_run", (2, [0, 1, 2, 3], [10, 5, 1, 9])), ("wl_run", (1, [2 ** 62] * 3, [4294967295] * 3)),
    ("wl_run", (64, [0] * 200, [7] * 200)), ("wl_run", (1, [], [])), ("wl_run", (0, [], [])),
    ("wl_run", (3, [1, 0], [1, 1])), ("wl_run", (3, [0, 2 ** 62 + 1], [1, 1])),
)


def fresh():
    """The module, run anew: nothing was called of it."""
    made = importlib.util.spec_from_file_location("fresh_lines", lines.__file__)
    module = importlib.util.module_from_spec(made)
    made.loader.exec_module(module)
    return module


def ask(module, call):
    name, arguments = call
    return getattr(module, name)(*arguments)


class EachByItself(LongLists, unittest.TestCase):
    @classmethod
    def setUpClass(cls):
        cls.alone = [ask(fresh(), call) for call in CALLS]

    def test_told_by_hand(self):
        by_name = {}
        for (name, arguments), answer in zip(CALLS, self.alone):
            by_name.setdefault(name, answer)
        self.assertEqual(by_name, {
            "wl_lost": [0, 200000000],
            "wl_waits": [0, 333333333],
            "wl_need": [1],
            "wl_chain": [0, 250000000, 500000000, 250000000],
            "wl_run": [0, 0, 1, 6, 7],
        })

    def test_any_order(self):
        places = list(range(len(CALLS)))
        numbers = random.Random(1)
        before = state()
        for turn in range(20):
            numbers.shuffle(places)
            for place in places:
                answer = ask(lines, CALLS[place])
                self.assertEqual(answer, self.alone[place], CALLS[place])
                # What the caller does with an answer is nothing to the calls that follow.
                answer.append(turn)
        self.assertEqual(state(), before)

    def test_each_behind_each(self):
        for first in CALLS:
            for place, second in enumerate(CALLS):
                ask(lines, first)
                self.assertEqual(ask(lines, second), self.alone[place], (first, second))


class TheInterface(unittest.TestCase):
    def test_the_five_functions(self):
        names = sorted(name for name in vars(lines) if name.startswith("wl_"))
        self.assertEqual(names, ["wl_chain", "wl_lost", "wl_need", "wl_run", "wl_waits"])


class OneBesideTheOther(unittest.TestCase):
    def test_the_last_state_of_a_chain_is_what_is_lost(self):
        # State k is k lines that are taken: it goes up as fast as calls come, and down k times as fast as one ends.
        for load in (1, 2, 3, 20, 256):
            for c in (1, 2, 3, 20, 255, 256):
                chain = lines.wl_chain([load] * c, list(range(1, c + 1)))
                self.assertEqual(chain[-1], lines.wl_lost(c, load * 1000000)[1])

    def test_lines_needed_and_what_is_lost(self):
        for load in (1, 2, 3, 20):
            for p in (1000, 1000000, 10000000, 500000000):
                c = lines.wl_need(load * 1000000, p)[0]
                self.assertLessEqual(lines.wl_lost(c, load * 1000000)[1], p)
                if c > 1:
                    self.assertGreaterEqual(lines.wl_lost(c - 1, load * 1000000)[1], p)


if __name__ == "__main__":
    unittest.main()
