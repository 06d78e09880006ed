"""onto: how many maps of the first into the second give each place of it (points 1 and 3)."""

import unittest
from itertools import permutations

from mapcounts.graphs import onto, walks
from tests import oracle
from tests.oracle import LARGER, LARGEST, NO_GRAPHS, flat, numbers, path, ring, whole

# In how many ways so many places can be given to so many others, each of these being given.
WAYS = {
    1: [1, 0, 0, 0, 0],
    2: [1, 2, 0, 0, 0],
    3: [1, 6, 6, 0, 0],
    4: [1, 14, 36, 24, 0],
    5: [1, 30, 150, 240, 120],
}

EVERY_TWO = [(n, m) for n in range(1, 6) for m in range(1, 6)]


class Ordinary(unittest.TestCase):
    def held(self, n, m, a, b):
        with self.subTest(n=n, m=m, a=a, b=b):
            self.assertEqual(onto(n, m, flat(n, a), flat(m, b)), [oracle.onto(n, m, a, b)])

    def test_every_two_of_one_or_two_places(self):
        small = [(n, a) for n in (1, 2) for a in numbers(n)]
        for n, a in small:
            for m, b in small:
                self.held(n, m, a, b)

    def test_three_places_and_one_or_two(self):
        for a in numbers(3):
            for m in (1, 2):
                for b in numbers(m):
                    self.held(3, m, a, b)

    def test_three_places_into_three(self):
        for a in range(0, 512, 7):
            for b in range(0, 512, 11):
                self.held(3, 3, a, b)

    def test_graphs_of_one_to_five_places(self):
        spread = [(n, a) for n in (1, 2, 3) for a in numbers(n)]
        spread = spread[:18] + spread[18::37] + LARGER[::9]
        for n, a in spread:
            for m, b in spread:
                self.held(n, m, a, b)

    def test_few_arrows_into_many(self):
        # Of those above few are maps, as what has many arrows is seldom carried by what has few.
        found = 0
        for n, m in EVERY_TWO:
            for rank in range(n * n):
                for left_out in range(0, m * m, 2):
                    a, b = 2 ** rank | path(n), whole(m) - 2 ** left_out
                    self.held(n, m, a, b)
                    found += oracle.onto(n, m, a, b) > 0
        self.assertGreater(found, 500)

    def test_told_by_hand(self):
        self.assertEqual(onto(3, 2, [0, 1], [0, 1]), [2])
        self.assertEqual(onto(3, 2, [0, 1, 1, 2], [0, 1, 1, 0]), [2])
        self.assertEqual(onto(3, 2, [0, 1, 1, 2], [0, 0, 0, 1]), [1])
        self.assertEqual(onto(3, 2, [0, 1, 1, 2], [0, 1]), [0])
        self.assertEqual(onto(4, 2, [0, 1, 2, 3], [0, 1]), [1])
        self.assertEqual(onto(5, 3, flat(5, path(5)), flat(3, ring(3))), [3])


class Edges(unittest.TestCase):
    def test_one_place_into_one(self):
        self.assertEqual(onto(1, 1, [], []), [1])
        self.assertEqual(onto(1, 1, [], [0, 0]), [1])
        self.assertEqual(onto(1, 1, [0, 0], [0, 0]), [1])
        self.assertEqual(onto(1, 1, [0, 0], []), [0])

    def test_into_one_place(self):
        for n in range(1, 6):
            for first in ([], [0, n - 1], [n - 1, n - 1], flat(n, whole(n))):
                with self.subTest(n=n, first=first):
                    self.assertEqual(onto(n, 1, first, [0, 0]), [1])
                    self.assertEqual(onto(n, 1, first, []), [0 if first else 1])

    def test_of_one_place_into_more(self):
        for m in range(2, 6):
            for second in ([], [0, 0], flat(m, whole(m))):
                with self.subTest(m=m, second=second):
                    self.assertEqual(onto(1, m, [], second), [0])
                    self.assertEqual(onto(1, m, [0, 0], second), [0])

    def test_fewer_places_than_the_second(self):
        for n, m in EVERY_TWO:
            if n < m:
                for first in ([], [0, 0], flat(n, path(n)), flat(n, whole(n))):
                    for second in ([], flat(m, path(m)), flat(m, whole(m))):
                        with self.subTest(n=n, m=m, first=first, second=second):
                            self.assertEqual(onto(n, m, first, second), [0])

    def test_no_arrows_on_either_side(self):
        for n, m in EVERY_TWO:
            with self.subTest(n=n, m=m):
                self.assertEqual(onto(n, m, [], []), [WAYS[n][m - 1]])

    def test_no_arrows_in_the_first(self):
        for n, m in EVERY_TWO:
            for second in ([0, 0], [m - 1, 0], flat(m, path(m)), flat(m, ring(m)), flat(m, whole(m))):
                with self.subTest(n=n, m=m, second=second):
                    self.assertEqual(onto(n, m, [], second), [WAYS[n][m - 1]])

    def test_no_arrows_in_the_second(self):
        for n, m in EVERY_TWO:
            for first in ([0, 0], [n - 1, 0], flat(n, ring(n)), flat(n, whole(n))):
                with self.subTest(n=n, m=m, first=first):
                    self.assertEqual(onto(n, m, first, []), [0])

    def test_every_arrow_in_the_second(self):
        for n, m in EVERY_TWO:
            for first in ([0, 0], [n - 1, 0], flat(n, path(n)), flat(n, ring(n)), flat(n, whole(n))):
                with self.subTest(n=n, m=m, first=first):
                    self.assertEqual(onto(n, m, first, flat(m, whole(m))), [WAYS[n][m - 1]])

    def test_every_arrow_in_the_first(self):
        for n, m in EVERY_TWO:
            for rank in range(m * m):
                with self.subTest(n=n, m=m, rank=rank):
                    self.assertEqual(onto(n, m, flat(n, whole(n)), flat(m, whole(m) - 2 ** rank)), [0])

    def test_every_place_but_not_every_arrow(self):
        self.assertEqual(onto(2, 2, [], [0, 1]), [2])
        self.assertEqual(onto(2, 2, [0, 1], [0, 1, 1, 0]), [2])
        self.assertEqual(onto(3, 3, [0, 1], [0, 1, 1, 2]), [2])

    def test_every_arrow_but_not_every_place(self):
        self.assertEqual(onto(2, 3, [0, 1], [0, 1]), [0])
        self.assertEqual(onto(2, 2, [0, 0, 0, 1, 1, 0, 1, 1], [0, 0]), [0])

    def test_the_same_but_for_names(self):
        for n, a in [(3, a) for a in range(0, 512, 13)] + LARGER[::7]:
            for names in list(permutations(range(n)))[1::7]:
                b = oracle.renamed(n, a, names)
                with self.subTest(n=n, a=a, names=names):
                    due = onto(n, n, flat(n, a), flat(n, a))
                    self.assertGreater(due[0], 0)
                    self.assertEqual(onto(n, n, flat(n, a), flat(n, b)), due)
                    self.assertEqual(onto(n, n, flat(n, b), flat(n, a)), due)

    def test_as_many_arrows_but_not_the_same(self):
        self.assertEqual(onto(3, 3, [0, 1, 0, 2], [1, 0, 2, 0]), [0])
        self.assertEqual(onto(3, 3, [0, 1, 0, 2], [0, 1, 1, 2]), [0])

    def test_turned_about(self):
        for n, a, m, b in ((3, 6, 2, 2), (4, path(4), 3, ring(3)), (5, path(5), 3, 2 + 16 + 32), (4, 6, 3, 7)):
            about = flat(n, oracle.turned(n, a)), flat(m, oracle.turned(m, b))
            self.assertEqual(onto(n, m, *about), onto(n, m, flat(n, a), flat(m, b)))
        self.assertEqual(onto(3, 2, [0, 1, 0, 2], [0, 0, 0, 1]), [3])
        self.assertEqual(onto(3, 2, [1, 0, 2, 0], [0, 0, 0, 1]), [1])

    def test_the_two_do_not_stand_for_one_another(self):
        self.assertEqual((onto(2, 1, [0, 1], [0, 0]), onto(1, 2, [0, 0], [0, 1])), ([1], [0]))
        self.assertEqual((onto(2, 2, [], [0, 1]), onto(2, 2, [0, 1], [])), ([2], [0]))

    def test_five_places_into_five(self):
        line, circle, every = flat(5, path(5)), flat(5, ring(5)), flat(5, whole(5))
        self.assertEqual(onto(5, 5, [], []), [120])
        self.assertEqual(onto(5, 5, every, every), [120])
        self.assertEqual(onto(5, 5, line, every), [120])
        self.assertEqual(onto(5, 5, line, line), [1])
        self.assertEqual(onto(5, 5, circle, circle), [5])
        self.assertEqual(onto(5, 5, line, circle), [5])
        self.assertEqual(onto(5, 5, circle, line), [0])
        self.assertEqual(onto(5, 5, every, []), [0])
        # From each place on, round one way or the other.
        both_ways = oracle.turned(5, ring(5)) | ring(5)
        self.assertEqual(onto(5, 5, line, flat(5, both_ways)), [10])

    def test_walks_that_go_everywhere(self):
        self.assertEqual(onto(4, 2, flat(4, path(4)), [0, 0, 0, 1, 1, 1]), [3])
        self.assertEqual(walks(2, 3, [0, 0, 0, 1, 1, 1]), [5])


class Refusals(unittest.TestCase):
    def test_the_first_is_no_graph(self):
        for why, n, first in NO_GRAPHS:
            for m, second in ((1, []), (2, [0, 1]), (5, flat(5, whole(5)))):
                with self.subTest(why, m=m):
                    self.assertEqual(onto(n, m, first, second), [-22])

    def test_the_second_is_no_graph(self):
        for why, m, second in NO_GRAPHS:
            for n, first in ((1, []), (2, [0, 1]), (5, flat(5, whole(5)))):
                with self.subTest(why, n=n):
                    self.assertEqual(onto(n, m, first, second), [-22])

    def test_neither_is_a_graph(self):
        for why, n, first in NO_GRAPHS:
            for other, m, second in NO_GRAPHS:
                with self.subTest(why, other=other):
                    self.assertEqual(onto(n, m, first, second), [-22])

    def test_not_so_many_places(self):
        for wrong in (0, 6, 7, 60, 2 ** 16, 2 ** 31, LARGEST):
            for right in range(1, 6):
                with self.subTest(wrong=wrong, right=right):
                    self.assertEqual(onto(wrong, right, [], []), [-22])
                    self.assertEqual(onto(right, wrong, [], []), [-22])

    def test_a_list_is_held_against_its_own_places(self):
        self.assertEqual(onto(2, 3, [2, 2], [0, 1]), [-22])
        self.assertEqual(onto(3, 2, [0, 1], [2, 2]), [-22])
        self.assertEqual(onto(3, 2, [2, 2], [1, 1]), [3])
        self.assertEqual(onto(2, 3, [1, 1], [2, 2]), [0])

    def test_more_than_three_places_are_not_too_many(self):
        self.assertEqual(onto(4, 4, [], []), [24])
        self.assertEqual(onto(5, 1, [4, 4], [0, 0]), [1])


class NothingKept(oracle.NothingKept, unittest.TestCase):
    asked = staticmethod(onto)
    CALLS = [
        (5, 5, flat(5, whole(5)), flat(5, whole(5))),
        (5, 3, flat(5, path(5)), flat(3, ring(3))),
        (3, 2, [0, 1], [0, 1]),
        (2, 3, [0, 1], [0, 1]),
        (1, 1, [0, 0], []),
        (1, 1, [], [0, 0]),
        (2, 2, [1, 0, 0, 1], [0, 1]),
        (2, 2, [0, 1], [0, 1, 1]),
        (0, 6, [], []),
        (5, 5, [LARGEST] * 60, [LARGEST] * 60),
    ]

    def due_length(self, answer):
        return 1

    def test_one_list_may_be_both(self):
        for n, due in ((1, 1), (2, 2), (3, 6)):
            every = flat(n, whole(n))
            self.assertEqual(onto(n, n, every, every), [due])


if __name__ == "__main__":
    unittest.main()
