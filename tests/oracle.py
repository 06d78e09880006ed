"""What the tests hold the answers against: the document's words, gone through the long way."""

from itertools import combinations, permutations, product

LARGEST = 2 ** 32 - 1


class Untouched(list):
    """A list that fails at once when anything tries to change it, even for a while."""

    def refuse(self, *args, **kwargs):
        raise AssertionError("what was handed in was changed")

    __setitem__ = __delitem__ = __iadd__ = __imul__ = refuse
    append = extend = insert = pop = remove = clear = sort = reverse = refuse


def arrows(k, a):
    """The arrows of the graph of k places with number a."""
    return {(u, v) for u in range(k) for v in range(k) if a & 2 ** (u * k + v)}


def flat(k, a):
    """The same, as it is handed in."""
    return [place for arrow in sorted(arrows(k, a)) for place in arrow]


def whole(k):
    """The number of the graph of k places with all arrows."""
    return 2 ** (k * k) - 1


def numbers(k):
    """The numbers of all graphs of k places."""
    return range(2 ** (k * k))


def renamed(k, a, names):
    """The number of the graph whose place u is now called names[u]."""
    return sum(2 ** (names[u] * k + names[v]) for u, v in arrows(k, a))


def turned(k, a):
    """The number of the graph with each arrow turned about."""
    return sum(2 ** (v * k + u) for u, v in arrows(k, a))


def same_but_for_names(k, a, b):
    return any(renamed(k, a, names) == b for names in permutations(range(k)))


def one_of_each(k):
    """The least number of each graph of k places, taking those that are the same but for names as one."""
    return [a for a in numbers(k) if a == min(renamed(k, a, names) for names in permutations(range(k)))]


def map_counts(k, n, a):
    """Of each graph of k places, by its number, how many maps there are into the graph (n, a)."""
    into = arrows(n, a)
    # A choice of images is a map from just those graphs all of whose arrows it can carry.
    carried = [
        sum(2 ** (u * k + v) for u in range(k) for v in range(k) if (choice[u], choice[v]) in into)
        for choice in product(range(n), repeat=k)
    ]
    return [sum(1 for mask in carried if b & ~mask == 0) for b in numbers(k)]


def told_apart(n, m, first_counts, second_counts):
    """What differ has to answer, from map_counts of each, for 1, 2 .. places."""
    for k in range(1, max(n, m) + 1):
        for b, (one, two) in enumerate(zip(first_counts[k - 1], second_counts[k - 1])):
            if one != two:
                return [k, b, one, two]
    return [-6]


def counts_up_to(most, n, a):
    return [map_counts(k, n, a) for k in range(1, most + 1)]


def differ(n, m, a, b):
    most = max(n, m)
    return told_apart(n, m, counts_up_to(most, n, a), counts_up_to(most, m, b))


def walks(n, k, a):
    """Each row of k and 1 places, looked at by itself."""
    there = arrows(n, a)
    rows = product(range(n), repeat=k + 1)
    return sum(1 for row in rows if all(pair in there for pair in zip(row, row[1:])))


def rounds(n, k, a):
    """Each row of k and 1 places whose last one is its first, looked at by itself."""
    there = arrows(n, a)
    rows = (row + row[:1] for row in product(range(n), repeat=k)) if k else ((place,) for place in range(n))
    return sum(1 for row in rows if all(pair in there for pair in zip(row, row[1:])))


def rounds_by_power(n, k, a):
    """The same where the rows are too many: what stands from each place to itself in the table's power."""
    table = [[int((u, v) in arrows(n, a)) for v in range(n)] for u in range(n)]
    power = [[int(u == v) for v in range(n)] for u in range(n)]
    for _ in range(k):
        power = [[sum(row[w] * table[w][v] for w in range(n)) for v in range(n)] for row in power]
    return sum(power[u][u] for u in range(n))


def maps(n, m, a, b):
    """All maps of the graph (n, a) into the graph (m, b), in order."""
    from_there, into = arrows(n, a), arrows(m, b)
    choices = product(range(m), repeat=n)
    return [choice for choice in choices if all((choice[u], choice[v]) in into for u, v in from_there)]


def onto(n, m, a, b):
    return sum(1 for choice in maps(n, m, a, b) if set(choice) == set(range(m)))


def between(n, a, places):
    """The number of the graph that has some of the places, named anew in their order, and what's between them."""
    there, k = arrows(n, a), len(places)
    return sum(2 ** (u * k + v) for u in range(k) for v in range(k) if (places[u], places[v]) in there)


def parts(n, a):
    """Of each set of places but the empty one: how many places it has, the number of what's between them."""
    return [
        (size, between(n, a, places))
        for size in range(1, n + 1)
        for places in combinations(range(n), size)
    ]


def path(k):
    """The number of the path of k places, each with an arrow to the next."""
    return sum(2 ** (u * k + u + 1) for u in range(k - 1))


def ring(k):
    """The number of the ring of k places: the path, and an arrow from the last place to the first."""
    return path(k) + 2 ** ((k - 1) * k)


# Graphs of 4 and 5 places, by how many they have and their numbers: too many to go through all.
LARGER = [(n, a) for n, stride in ((4, 997), (5, 524287)) for a in range(0, 2 ** (n * n), stride)]

# Of each: why it is no graph, how many places, the list.
NO_GRAPHS = [
    ("no places", 0, []),
    ("no places, an arrow", 0, [0, 0]),
    ("six places", 6, []),
    ("six places, an arrow", 6, [0, 5]),
    ("as many places as can be handed in", LARGEST, []),
    ("as many places, an arrow between them", LARGEST, [LARGEST - 1, LARGEST - 1]),
    ("one number", 1, [0]),
    ("three numbers", 2, [0, 1, 1]),
    ("an odd count, the last one too great", 2, [0, 1, 9]),
    ("59 numbers", 5, (flat(5, whole(5)) + [4] * 10)[:59]),
    ("51 numbers", 5, flat(5, whole(5)) + [4]),
    ("from a place that isn't there", 1, [1, 0]),
    ("to a place that isn't there", 1, [0, 1]),
    ("to a place that isn't there, of two", 2, [0, 2]),
    ("to a place that isn't there, then a right one", 2, [0, 2, 1, 1]),
    ("from a place that isn't there, of two", 2, [2, 0]),
    ("a right one, then one to a place that isn't there", 3, [0, 1, 2, 3]),
    ("a right one, then one from a place that isn't there", 3, [0, 1, 3, 2]),
    ("from a place that isn't there, of five", 5, [5, 0]),
    ("to a place that isn't there, of five", 5, [4, 5]),
    ("from the greatest number", 3, [LARGEST, 0]),
    ("to the greatest number", 3, [0, LARGEST]),
    ("60 of the greatest number", 5, [LARGEST] * 60),
    ("falling by the first", 2, [1, 0, 0, 1]),
    ("falling by the first, rising by the second", 3, [1, 0, 0, 2]),
    ("falling by the second", 2, [0, 1, 0, 0]),
    ("falling at the end", 3, [0, 1, 1, 2, 1, 0]),
    ("told twice", 2, [0, 1, 0, 1]),
    ("an arrow to itself told twice", 1, [0, 0, 0, 0]),
    ("told twice at the end", 3, [0, 1, 2, 2, 2, 2]),
    ("told twice, another between", 3, [0, 1, 1, 2, 0, 1]),
    ("told thirty times", 1, [0] * 60),
    ("all arrows and the last one again", 5, flat(5, whole(5)) + [4, 4]),
    ("all arrows and the first ones again", 5, flat(5, whole(5)) + flat(5, whole(5))[:10]),
]


class WalkRefusals:
    """What walks and rounds refuse alike; a TestCase beside it says which of them is asked."""

    def test_no_graph(self):
        for why, n, first in NO_GRAPHS:
            for k in (0, 1, 12):
                with self.subTest(why, k=k):
                    self.assertEqual(self.asked(n, k, first), [-22])

    def test_too_many_arrows(self):
        for k in (13, 14, 60, 2 ** 31, LARGEST):
            for n in range(1, 6):
                with self.subTest(n=n, k=k):
                    self.assertEqual(self.asked(n, k, []), [-22])
                    self.assertEqual(self.asked(n, k, [0, 0]), [-22])
                    self.assertEqual(self.asked(n, k, flat(n, whole(n))), [-22])

    def test_no_graph_and_too_many_arrows(self):
        for why, n, first in NO_GRAPHS:
            for k in (13, LARGEST):
                with self.subTest(why, k=k):
                    self.assertEqual(self.asked(n, k, first), [-22])


class NothingKept:
    """What holds for each function; a TestCase beside it says which is asked, with what, and how long answers are."""

    def test_what_is_handed_in_is_left_as_it_was(self):
        for call in self.CALLS:
            with self.subTest(call=call):
                handed = [Untouched(value) if isinstance(value, list) else value for value in call]
                self.assertEqual(self.asked(*handed), self.asked(*call))
                self.assertEqual(handed, list(call))

    def test_a_call_answers_the_same_again(self):
        before = [self.asked(*call) for call in self.CALLS]
        due = [list(answer) for answer in before]
        for answer in before:
            answer.append(7)
        self.assertEqual([self.asked(*call) for call in reversed(self.CALLS)], due[::-1])
        self.assertEqual([self.asked(*call) for call in self.CALLS], due)

    def test_answers_are_lists_of_whole_numbers(self):
        for call in self.CALLS:
            with self.subTest(call=call):
                answer = self.asked(*call)
                self.assertIs(type(answer), list)
                self.assertEqual({type(value) for value in answer}, {int})
                self.assertEqual(len(answer), 1 if answer[0] < 0 else self.due_length(answer))
                self.assertTrue(len(answer) == 1 or min(answer) >= 0)
