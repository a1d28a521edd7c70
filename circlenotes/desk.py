"""The calls: each takes whole numbers and lists of them, and answers a list of whole numbers."""

MOST_PLACES = 128
MOST_PLACES_OF_CLASSES = 64

NOT_IN_RANGE = -2
NOT_SUCH_A_SET = -3


def gaps(n, a):
    """How many places a has; then, for d from 0 to n - 1, how many of them have one d further on."""
    if not is_circle(n):
        return [NOT_IN_RANGE]
    if not lies_on(n, a):
        return [NOT_SUCH_A_SET]
    return [len(a)] + gap_counts(n, a)


def form(n, mirror, a):
    """By how many turns a stays as it is; then the first of a's turned (and mirrored) ones."""
    if not is_circle(n) or mirror not in (0, 1):
        return [NOT_IN_RANGE]
    if not lies_on(n, a):
        return [NOT_SUCH_A_SET]
    turns = all_turned(n, a)
    candidates = turns
    if mirror == 1:
        candidates = turns + all_turned(n, mirrored(n, a))
    # The turn by 0 stands first in turns: it is a itself.
    return [turns.count(turns[0])] + min(candidates, key=set_number)


def rub(n, a, w):
    """0; then the sum, over each place of a and each other one, of w of how far on the other is."""
    if not is_circle(n):
        return [NOT_IN_RANGE]
    if not lies_on(n, a):
        return [NOT_SUCH_A_SET]
    return [0, weighed(gap_counts(n, a), w)]


def even(n, k, m):
    """0; then k places spread as evenly over the circle as can be, shifted by m."""
    if not is_circle(n) or not 1 <= k <= n or m >= n:
        return [NOT_IN_RANGE]
    return [0] + [(n * j + m) // k % n for j in range(k)]


def spread(n, a):
    """1 if the places of a are spread as evenly over the circle as can be, else 0."""
    if not is_circle(n):
        return [NOT_IN_RANGE]
    if len(a) == 0 or not lies_on(n, a):
        return [NOT_SUCH_A_SET]
    if all([is_level(n, a, i) for i in range(1, len(a))]):
        return [1]
    return [0]


def alike(n, a, b):
    """2 if b is a, turned, or mirrored and turned; else 1 if both have the same gaps; else 0."""
    if not is_circle(n):
        return [NOT_IN_RANGE]
    if not lies_on(n, a) or not lies_on(n, b):
        return [NOT_SUCH_A_SET]
    if b in all_turned(n, a) or b in all_turned(n, mirrored(n, a)):
        return [2]
    if gap_counts(n, a) == gap_counts(n, b):
        return [1]
    return [0]


def classes(n, k):
    """0; then how many sets of k places there are but for turning."""
    if not 1 <= n <= MOST_PLACES_OF_CLASSES or not 0 <= k <= n:
        return [NOT_IN_RANGE]
    # Burnside: counted turn by turn, the sets that stay as they are come to n for each class.
    return [0, sum([staying(n, k, r) for r in range(n)]) // n]


def is_circle(n):
    return 1 <= n <= MOST_PLACES


def lies_on(n, places):
    return all([place < n for place in places])


def gap_counts(n, places):
    # A look at a mark is one step, a search through the places would be many.
    marks = marks_of(n, places)
    return [gap_count(places, marks, d) for d in range(n)]


def gap_count(places, marks, d):
    return sum([marks[(place + d) % len(marks)] for place in places])


def weighed(counts, weights):
    # Only a place and itself are 0 apart, so what stands first is left out; where weights end, the rest weighs 0.
    return sum([count * weight for count, weight in zip(counts[1:], weights[1:])])


def is_level(n, places, i):
    """Whether the i-th behind each place is n i / how many further on, rounded down or up."""
    size = len(places)
    rounded_down = n * i // size
    rounded_up = (n * i + size - 1) // size
    return all([span in (rounded_down, rounded_up) for span in spans(n, places, i)])


def spans(n, places, i):
    """How far on from each place the i-th of the places behind it is."""
    behind = places[i:] + places[:i]
    return [(end - start) % n for start, end in zip(places, behind)]


def staying(n, k, r):
    """How many sets of k places there are that turned by r are as they were."""
    # Going r further again and again leads round a ring of places; a set that stays is made of whole rings.
    rings = common_divisor(n, r)
    ring_size = n // rings
    if k % ring_size != 0:
        return 0
    return choices(rings, k // ring_size)


def common_divisor(a, b):
    """The greatest number that divides both."""
    divisor = a
    rest = b
    while rest > 0:
        smaller = divisor % rest
        divisor = rest
        rest = smaller
    return divisor


def choices(size, k):
    """How many ways there are to take k out of size things."""
    ways = 1
    for taken in range(k):
        # Multiplied first: what then stands there is divided without a rest.
        ways = ways * (size - taken) // (taken + 1)
    return ways


def marks_of(n, places):
    """The circle place by place: 1 where it is marked, else 0."""
    marks = [0] * n
    for place in places:
        marks[place] = 1
    return marks


def turned(n, places, r):
    return sorted([(place + r) % n for place in places])


def mirrored(n, places):
    return sorted([(n - place) % n for place in places])


def all_turned(n, places):
    return [turned(n, places, r) for r in range(n)]


def set_number(places):
    """The number by which sets are ordered: place i counts 2 to the i."""
    return sum([1 << place for place in places])
