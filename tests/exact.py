"""The document's formulas, computed with fractions, for the tests to hold the program against."""

from fractions import Fraction
from math import factorial


def exact_lost(c, a):
    load = Fraction(a, 1000000)
    total = sum(load ** k / factorial(k) for k in range(c + 1))
    return load ** c / factorial(c) / total


def exact_waits(c, a):
    load = Fraction(a, 1000000)
    lost = exact_lost(c, a)
    return c * lost / (c - load * (1 - lost))


def exact_need(a, p):
    """The least c, each c from 0 on being asked, with the terms and their sum carried along."""
    load, limit = Fraction(a, 1000000), Fraction(p, 1000000000)
    c, term, total = 0, Fraction(1), Fraction(1)
    while term / total > limit:
        c += 1
        term = term * load / c
        total += term
    return c


def goes(up, down, parts, i):
    """How much goes from state i, up and down."""
    n = len(up)
    return (parts[i] * up[i] if i < n else 0) + (parts[i] * down[i - 1] if i > 0 else 0)


def comes(up, down, parts, i):
    """How much comes to state i, from below and from above."""
    n = len(up)
    return (parts[i - 1] * up[i - 1] if i > 0 else 0) + (parts[i + 1] * down[i] if i < n else 0)


def exact_chain(up, down):
    """The parts: state i says how often it's in i + 1, for what goes from i has to come to it."""
    parts = [Fraction(1)]
    for i in range(len(up)):
        from_below = parts[i - 1] * up[i - 1] if i > 0 else 0
        parts.append((goes(up, down, parts, i) - from_below) / down[i])
    total = sum(parts)
    return [part / total for part in parts]


def plain_run(c, come, need):
    """When each begins: customer by customer, with when each server is free, the one that's free first in front."""
    servers, begins = [0] * c, []
    for there, long in zip(come, need, strict=True):
        servers.sort()
        begins.append(there if there > servers[0] else servers[0])
        servers[0] = begins[-1] + long
    return begins


def run_by_ticks(c, come, need):
    """When each begins: time by time from 0 on, who is there begins, in order, as long as a server is free."""
    servers, begins, time = [0] * c, [], 0
    while len(begins) < len(come):
        free = [k for k in range(c) if servers[k] <= time]
        if free and come[len(begins)] <= time:
            # Not the one that's free first, but the last of the list: the times have to be the same.
            servers[free[-1]] = time + need[len(begins)]
            begins.append(time)
        else:
            time += 1
    return begins


def nearest_even(exact):
    """Exact times 1000000000 to a whole number, by the distances to its two neighbours."""
    scaled = exact * 1000000000
    below = scaled.numerator // scaled.denominator
    to_below, to_above = scaled - below, below + 1 - scaled
    if to_below == to_above:
        return below if below % 2 == 0 else below + 1
    return below if to_below < to_above else below + 1
