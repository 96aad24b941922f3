"""Lines to which calls come, chains of states, and customers at servers, told exactly over whole numbers."""

MOST_LINES = 256
MOST_LOAD = 1000000000
MILLION = 1000000
ROUNDED_ONE = 1000000000
MOST_STEPS = 256
FASTEST = 1000000
MOST_SERVERS = 64
MOST_CUSTOMERS = 65536
LAST_TIME = 4611686018427387904


def rounded(top, bottom):
    """Top over bottom (0 or more, above 0), times ROUNDED_ONE, to a whole number, a half to the even one."""
    scaled = top * ROUNDED_ONE
    whole = scaled // bottom
    twice_rest = 2 * (scaled % bottom)
    if twice_rest > bottom or (twice_rest == bottom and whole % 2 == 1):
        return whole + 1
    return whole


def out_of_range(c, a):
    return c < 1 or c > MOST_LINES or a > MOST_LOAD


def one_more_line(lost, k, a):
    """The part that is lost of k lines, from that of k - 1: both exact, as a pair, top over bottom."""
    # The load's k-th power over k!, and the sum of these up to k, are both held times
    # MILLION^k * k!: so they stay whole, and one over the other is what it was.
    top = lost[0] * a
    return (top, lost[1] * MILLION * k + top)


def lost_part(c, a):
    """The exact part that is lost of c lines under a load of a millionths, as a pair, top over bottom."""
    # Of 0 lines all is lost.
    lost = (1, 1)
    for k in range(1, c + 1):
        lost = one_more_line(lost, k, a)
    return lost


def wl_lost(c, a):
    """The part that is lost of c lines under a load of a millionths: [0, it rounded], or [-2]."""
    if out_of_range(c, a):
        return [-2]
    lost = lost_part(c, a)
    return [0, rounded(lost[0], lost[1])]


def wl_waits(c, a):
    """The part that waits at c lines under a load of a millionths: [0, it rounded], or [-2] or [-6]."""
    if out_of_range(c, a):
        return [-2]
    if a >= c * MILLION:
        return [-6]
    lost = lost_part(c, a)
    top = lost[0]
    bottom = lost[1]
    # c * lost over c - load * (1 - lost), both times MILLION * bottom: so they are whole.
    # The second is above 0, for the load is below c.
    return [0, rounded(c * MILLION * top, c * MILLION * bottom - a * (bottom - top))]


def wl_need(a, p):
    """The least number of lines of which no more is lost than p thousand-millionths: [it], or [-2]."""
    if a > MOST_LOAD or p < 1 or p > ROUNDED_ONE:
        return [-2]
    c = 0
    lost = lost_part(c, a)
    # Compared exactly, not rounded. It ends: with each line less is lost, in the end less than any p above 0.
    while lost[0] * ROUNDED_ONE > p * lost[1]:
        c = c + 1
        lost = one_more_line(lost, c, a)
    return [c]


def too_slow_or_fast(speeds):
    return min(speeds) < 1 or max(speeds) > FASTEST


def chain_weights(up, down):
    """Whole numbers, one for each state, that stand to one another as the parts do."""
    # State 0 is given the product of all of down: so each division below leaves no rest.
    weight = 1
    for speed in down:
        weight = weight * speed
    weights = [weight]
    # State 0 has no other way than that to 1, so as much goes there as comes back; and so on, state by state.
    for i in range(len(up)):
        weight = weight // down[i] * up[i]
        weights.append(weight)
    return weights


def wl_chain(up, down):
    """How often it is in each of the states 0 to n: [0, n + 1 parts rounded], or [-2] or [-1]."""
    n = len(up)
    if n < 1 or n > MOST_STEPS:
        return [-2]
    if too_slow_or_fast(up) or too_slow_or_fast(down):
        return [-1]
    weights = chain_weights(up, down)
    total = sum(weights)
    return [0] + [rounded(weight, total) for weight in weights]


def in_order(come):
    """Whether none of these times is below the one before it, or above LAST_TIME, which is 2^62."""
    before = 0
    for moment in come:
        if moment < before or moment > LAST_TIME:
            return False
        before = moment
    return True


def wl_run(c, come, need):
    """When each customer begins, at c servers: [0, n times], or [-2] or [-1]."""
    if c < 1 or c > MOST_SERVERS or len(come) > MOST_CUSTOMERS:
        return [-2]
    if not in_order(come):
        return [-1]
    free = [0] * c
    answer = [0]
    for i in range(len(come)):
        first = min(free)
        begin = max(come[i], first)
        # Of servers free at one time it's all the same which is taken.
        free[free.index(first)] = begin + need[i]
        answer.append(begin)
    return answer
