"""The calls: each takes whole numbers and lists of them, and answers a list of whole numbers."""

MOST_PLACES = 128

NOT_IN_RANGE = -2
NOT_SUCH_A_SET = -3


def gaps(n, a):
    """How many places a has; then, for d from 0 to n - 1, how many of them have one d further on."""
    if not is_circle(n):
        return [NOT_IN_RANGE]
    if not lies_on(n, a):
        return [NOT_SUCH_A_SET]
    return [len(a)] + gap_counts(n, a)


def form(n, mirror, a):
    """By how many turns a stays as it is; then the first of a's turned (and mirrored) ones."""
    if not is_circle(n) or mirror not in (0, 1):
        return [NOT_IN_RANGE]
    if not lies_on(n, a):
        return [NOT_SUCH_A_SET]
    turns = all_turned(n, a)
    candidates = turns
    if mirror == 1:
        candidates = turns + all_turned(n, mirrored(n, a))
    # The turn by 0 stands first in turns: it is a itself.
    return [turns.count(turns[0])] + min(candidates, key=set_number)


def rub(n, a, w):
    """0; then the sum, over each place of a and each other one, of w of how far on the other is."""
    if not is_circle(n):
        return [NOT_IN_RANGE]
    if not lies_on(n, a):
        return [NOT_SUCH_A_SET]
    return [0, weighed(gap_counts(n, a), w)]


def even(n, k, m):
    """0; then k places spread as evenly over the circle as can be, shifted by m."""
    if not is_circle(n) or not 1 <= k <= n or m >= n:
        return [NOT_IN_RANGE]
    return [0] + [(n * j + m) // k % n for j in range(k)]


def is_circle(n):
    return 1 <= n <= MOST_PLACES


def lies_on(n, places):
    return all([place < n for place in places])


def gap_counts(n, places):
    # A look at a mark is one step, a search through the places would be many.
    marks = marks_of(n, places)
    return [gap_count(places, marks, d) for d in range(n)]


def gap_count(places, marks, d):
    return sum([marks[(place + d) % len(marks)] for place in places])


def weighed(counts, weights):
    # Only a place and itself are 0 apart, so what stands first is left out; where weights end, the rest weighs 0.
    return sum([count * weight for count, weight in zip(counts[1:], weights[1:])])


def marks_of(n, places):
    """The circle place by place: 1 where it is marked, else 0."""
    marks = [0] * n
    for place in places:
        marks[place] = 1
    return marks


def turned(n, places, r):
    return sorted([(place + r) % n for place in places])


def mirrored(n, places):
    return sorted([(n - place) % n for place in places])


def all_turned(n, places):
    return [turned(n, places, r) for r in range(n)]


def set_number(places):
    """The number by which sets are ordered: place i counts 2 to the i."""
    return sum([1 << place for place in places])
