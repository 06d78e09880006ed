"""differ: by which graph two are told apart first (points 1 and 2)."""

import unittest

from mapcounts.graphs import differ
from tests import oracle
from tests.oracle import LARGEST, NO_GRAPHS, flat, numbers, whole


class Ordinary(unittest.TestCase):
    def test_every_two_of_one_or_two_places(self):
        small = [(n, a) for n in (1, 2) for a in numbers(n)]
        for n, a in small:
            for m, b in small:
                with self.subTest(n=n, a=a, m=m, b=b):
                    self.assertEqual(differ(n, m, flat(n, a), flat(m, b)), oracle.differ(n, m, a, b))

    def test_every_two_of_three_places_that_are_not_the_same(self):
        kinds = oracle.one_of_each(3)
        self.assertEqual(len(kinds), 104)
        counts = {a: oracle.counts_up_to(3, 3, a) for a in kinds}
        for a in kinds:
            for b in kinds:
                with self.subTest(a=a, b=b):
                    due = oracle.told_apart(3, 3, counts[a], counts[b])
                    self.assertEqual(differ(3, 3, flat(3, a), flat(3, b)), due)
                    self.assertEqual(due == [-6], a == b)

    def test_three_places_against_one_or_two(self):
        for a in range(0, 512, 31):
            for m in (1, 2):
                for b in numbers(m):
                    with self.subTest(a=a, m=m, b=b):
                        self.assertEqual(differ(3, m, flat(3, a), flat(m, b)), [1, 0, 3, m])
                        self.assertEqual(differ(m, 3, flat(m, b), flat(3, a)), [1, 0, m, 3])

    def test_told_by_hand(self):
        self.assertEqual(differ(1, 1, [], [0, 0]), [1, 1, 0, 1])
        self.assertEqual(differ(2, 2, [0, 0], [0, 0, 1, 1]), [1, 1, 1, 2])
        self.assertEqual(differ(2, 2, [0, 1], []), [2, 2, 1, 0])
        self.assertEqual(differ(2, 2, [0, 1, 1, 0], [0, 1]), [2, 2, 2, 1])


class Edges(unittest.TestCase):
    def test_one_place(self):
        self.assertEqual(differ(1, 1, [], []), [-6])
        self.assertEqual(differ(1, 1, [0, 0], [0, 0]), [-6])
        self.assertEqual(differ(1, 1, [0, 0], []), [1, 1, 1, 0])
        self.assertEqual(differ(1, 1, [], [0, 0]), [1, 1, 0, 1])

    def test_no_arrows_and_all(self):
        for n in (1, 2, 3):
            everything = flat(n, whole(n))
            self.assertEqual(differ(n, n, [], []), [-6])
            self.assertEqual(differ(n, n, everything, everything), [-6])
            self.assertEqual(differ(n, n, everything, []), [1, 1, n, 0])

    def test_the_same_but_for_names(self):
        for a in numbers(3):
            for names in ((1, 0, 2), (1, 2, 0)):
                with self.subTest(a=a, names=names):
                    b = oracle.renamed(3, a, names)
                    self.assertEqual(differ(3, 3, flat(3, a), flat(3, b)), [-6])
        self.assertEqual(differ(2, 2, [0, 0, 0, 1], [1, 0, 1, 1]), [-6])

    def test_turned_about(self):
        self.assertEqual(differ(2, 2, [0, 0, 0, 1], [0, 0, 1, 0]), [2, 3, 2, 1])
        self.assertEqual(differ(3, 3, [0, 1, 0, 2], [1, 0, 2, 0]), [3, 6, 4, 2])
        self.assertEqual(differ(3, 3, [1, 0, 2, 0], [0, 1, 0, 2]), [3, 6, 2, 4])

    def test_turned_about_is_at_times_the_same(self):
        self.assertEqual(differ(2, 2, [0, 1], [1, 0]), [-6])
        self.assertEqual(differ(3, 3, [0, 1, 1, 2], [1, 0, 2, 1]), [-6])
        self.assertEqual(differ(3, 3, [0, 1, 1, 2, 2, 0], [0, 2, 1, 0, 2, 1]), [-6])

    def test_every_one_turned_about(self):
        for a in numbers(3):
            with self.subTest(a=a):
                b = oracle.turned(3, a)
                same = oracle.same_but_for_names(3, a, b)
                self.assertEqual(differ(3, 3, flat(3, a), flat(3, b)) == [-6], same)

    def test_as_many_rounds_but_not_the_same(self):
        self.assertEqual(differ(2, 2, [], [0, 1]), [2, 2, 0, 1])
        self.assertEqual(differ(2, 2, [0, 0], [0, 0, 0, 1]), [2, 2, 1, 2])
        self.assertEqual(differ(3, 3, [0, 1, 0, 2, 1, 2], [0, 1, 1, 2]), [2, 2, 3, 2])
        self.assertEqual(differ(3, 3, [0, 1, 0, 2], [0, 1, 1, 2]), [3, 6, 4, 2])

    def test_more_places_and_as_many_maps(self):
        # From each graph without a lone place there are as many maps into both; a lone place tells them apart.
        self.assertEqual(differ(1, 2, [0, 0], [0, 0]), [1, 0, 1, 2])
        self.assertEqual(differ(2, 3, [0, 1], [0, 1]), [1, 0, 2, 3])
        self.assertEqual(differ(3, 1, [], []), [1, 0, 3, 1])

    def test_fewer_places_come_before_a_lesser_number(self):
        # Number 0 of two places would tell these apart too, but number 0 of one place comes ahead of it.
        self.assertEqual(differ(2, 1, [0, 0, 1, 1], [0, 0]), [1, 0, 2, 1])
        # Number 1 of one place comes ahead of number 1 of two places.
        self.assertEqual(differ(2, 2, [0, 0, 1, 1], [0, 0, 0, 1]), [1, 1, 2, 1])

    def test_told_apart_by_three_places_alone(self):
        kinds = oracle.one_of_each(3)
        counts = {a: oracle.counts_up_to(3, 3, a) for a in kinds}
        late = [(a, b) for a in kinds for b in kinds if a != b and counts[a][:2] == counts[b][:2]]
        self.assertTrue(late)
        for a, b in late:
            with self.subTest(a=a, b=b):
                answer = differ(3, 3, flat(3, a), flat(3, b))
                self.assertEqual(answer[0], 3)
                self.assertEqual(answer, oracle.told_apart(3, 3, counts[a], counts[b]))


class Refusals(unittest.TestCase):
    def test_the_first_is_no_graph(self):
        for why, n, first in NO_GRAPHS:
            with self.subTest(why):
                self.assertEqual(differ(n, 2, first, [0, 1]), [-22])

    def test_the_second_is_no_graph(self):
        for why, m, second in NO_GRAPHS:
            with self.subTest(why):
                self.assertEqual(differ(2, m, [0, 1], second), [-22])

    def test_neither_is_a_graph(self):
        for why, n, first in NO_GRAPHS:
            with self.subTest(why):
                self.assertEqual(differ(n, n, first, first), [-22])
                self.assertEqual(differ(n, 0, first, []), [-22])
                self.assertEqual(differ(LARGEST, n, [LARGEST] * 60, first), [-22])

    def test_no_graph_is_told_ahead_of_too_many_places(self):
        for why, n, first in NO_GRAPHS:
            for m in (4, 5):
                with self.subTest(why, m=m):
                    self.assertEqual(differ(n, m, first, [0, 1]), [-22])
                    self.assertEqual(differ(m, n, [0, 1], first), [-22])

    def test_more_than_three_places(self):
        for n in (4, 5):
            for m in (1, 2, 3, 4, 5):
                with self.subTest(n=n, m=m):
                    self.assertEqual(differ(n, m, [], []), [-75])
                    self.assertEqual(differ(m, n, [], []), [-75])
                    self.assertEqual(differ(n, m, [n - 1, 0], [0, 0]), [-75])
                    self.assertEqual(differ(m, n, [0, 0], [n - 1, 0]), [-75])
        self.assertEqual(differ(5, 5, flat(5, whole(5)), flat(5, whole(5))), [-75])
        self.assertEqual(differ(4, 3, flat(4, whole(4)), flat(3, whole(3))), [-75])

    def test_three_places_are_not_too_many(self):
        self.assertEqual(differ(3, 3, [2, 2], [0, 0]), [-6])


class NothingKept(oracle.NothingKept, unittest.TestCase):
    asked = staticmethod(differ)
    CALLS = [
        (3, 3, [0, 1, 0, 2], [1, 0, 2, 0]),
        (3, 3, [0, 1, 1, 2, 2, 0], [0, 2, 1, 0, 2, 1]),
        (1, 2, [0, 0], [0, 0]),
        (4, 2, [3, 3], [0, 1]),
        (2, 2, [0, 1, 0, 1], [1, 1, 0, 0]),
        (2, 2, [0, 1, 1], [0]),
    ]

    def due_length(self, answer):
        return 4

    def test_one_list_may_be_both(self):
        for n, flat_list in ((1, [0, 0]), (3, [0, 1, 0, 2])):
            self.assertEqual(differ(n, n, flat_list, flat_list), [-6])


if __name__ == "__main__":
    unittest.main()
