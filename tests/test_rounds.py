"""rounds: how many walks of k arrows come back (points 1 and 3)."""

import unittest

from mapcounts.graphs import differ, rounds, walks
from tests import oracle
from tests.oracle import LARGER, LARGEST, flat, numbers, whole


class Ordinary(unittest.TestCase):
    def test_every_graph_of_one_or_two_places(self):
        for n in (1, 2):
            for a in numbers(n):
                for k in range(9):
                    with self.subTest(n=n, a=a, k=k):
                        self.assertEqual(rounds(n, k, flat(n, a)), [oracle.rounds(n, k, a)])

    def test_every_graph_of_three_places(self):
        for a in numbers(3):
            for k in range(5):
                with self.subTest(a=a, k=k):
                    self.assertEqual(rounds(3, k, flat(3, a)), [oracle.rounds(3, k, a)])

    def test_graphs_of_four_and_five_places(self):
        for n, a in LARGER:
            for k in range(5):
                with self.subTest(n=n, a=a, k=k):
                    self.assertEqual(rounds(n, k, flat(n, a)), [oracle.rounds(n, k, a)])

    def test_told_by_hand(self):
        self.assertEqual(rounds(2, 2, [0, 1, 1, 0]), [2])
        self.assertEqual(rounds(2, 3, [0, 1, 1, 0]), [0])
        self.assertEqual(rounds(3, 3, [0, 1, 1, 2, 2, 0]), [3])
        self.assertEqual(rounds(3, 2, [0, 1, 1, 2, 2, 0]), [0])
        self.assertEqual(rounds(2, 3, [0, 0, 0, 1, 1, 0]), [4])
        self.assertEqual(rounds(3, 2, [0, 0, 0, 1, 1, 0, 2, 2]), [4])

    def test_as_many_as_maps_of_a_ring(self):
        # The rings of 1, 2 and 3 places, by their numbers.
        for k, ring in ((1, 1), (2, 2 + 4), (3, 2 + 32 + 64)):
            for n, a in LARGER[::5] + [(3, a) for a in range(0, 512, 7)]:
                with self.subTest(n=n, a=a, k=k):
                    self.assertEqual(rounds(n, k, flat(n, a)), [oracle.map_counts(k, n, a)[ring]])


class Edges(unittest.TestCase):
    def test_one_place(self):
        for k in range(13):
            self.assertEqual(rounds(1, k, [0, 0]), [1])
            self.assertEqual(rounds(1, k, []), [1 if k == 0 else 0])

    def test_no_arrows_walked(self):
        for n in range(1, 6):
            self.assertEqual(rounds(n, 0, []), [n])
            self.assertEqual(rounds(n, 0, [0, 0]), [n])
            self.assertEqual(rounds(n, 0, [n - 1, 0]), [n])
            self.assertEqual(rounds(n, 0, flat(n, whole(n))), [n])

    def test_one_arrow_walked(self):
        for n in range(1, 6):
            self.assertEqual(rounds(n, 1, []), [0])
            self.assertEqual(rounds(n, 1, [n - 1, n - 1]), [1])
            self.assertEqual(rounds(n, 1, flat(n, whole(n))), [n])
        self.assertEqual(rounds(2, 1, [0, 1, 1, 0]), [0])
        self.assertEqual(rounds(4, 1, [0, 1, 1, 1, 2, 3, 3, 3]), [2])

    def test_twelve_arrows_walked(self):
        for a in numbers(2):
            self.assertEqual(rounds(2, 12, flat(2, a)), [oracle.rounds(2, 12, a)])
        for n, a in LARGER + [(3, a) for a in numbers(3)]:
            with self.subTest(n=n, a=a):
                self.assertEqual(rounds(n, 12, flat(n, a)), [oracle.rounds_by_power(n, 12, a)])
        self.assertEqual(rounds(2, 12, [0, 0, 0, 1, 1, 0]), [322])

    def test_rings(self):
        for n in range(1, 6):
            ring = [place for u in range(n) for place in (u, (u + 1) % n)]
            for k in range(13):
                with self.subTest(n=n, k=k):
                    self.assertEqual(rounds(n, k, ring), [n if k % n == 0 else 0])

    def test_each_number_of_arrows(self):
        for k in range(13):
            for n, a in LARGER[::9]:
                with self.subTest(n=n, a=a, k=k):
                    self.assertEqual(rounds(n, k, flat(n, a)), [oracle.rounds_by_power(n, k, a)])

    def test_without_rounds(self):
        forward = [place for u in range(5) for v in range(u + 1, 5) for place in (u, v)]
        backward = [place for u in range(5) for v in range(u) for place in (u, v)]
        for k in range(1, 13):
            for first in ([], [0, 1, 1, 2, 2, 3, 3, 4], forward, backward):
                with self.subTest(k=k, first=first):
                    self.assertEqual(rounds(5, k, first), [0])

    def test_every_arrow(self):
        for n in range(1, 6):
            for k in range(1, 13):
                self.assertEqual(rounds(n, k, flat(n, whole(n))), [n ** k])

    def test_as_many_rounds_but_not_the_same(self):
        for n, first, second in (
            (2, [], [0, 1]),
            (2, [0, 0], [0, 0, 0, 1]),
            (3, [0, 1, 0, 2], [0, 1, 1, 2]),
            (3, [0, 1, 1, 0], [0, 1, 1, 0, 1, 2]),
            (3, [0, 1, 0, 2], [1, 0, 2, 0]),
        ):
            self.assertNotEqual(differ(n, n, first, second), [-6])
            for k in range(13):
                with self.subTest(first=first, second=second, k=k):
                    self.assertEqual(rounds(n, k, first), rounds(n, k, second))

    def test_as_many_turned_about_or_renamed(self):
        for a in range(0, 512, 7):
            for k in (2, 5, 12):
                due = rounds(3, k, flat(3, a))
                self.assertEqual(rounds(3, k, flat(3, oracle.turned(3, a))), due)
                self.assertEqual(rounds(3, k, flat(3, oracle.renamed(3, a, (1, 2, 0)))), due)

    def test_not_more_than_there_are_walks(self):
        self.assertEqual((rounds(3, 2, [0, 1, 1, 0, 1, 2]), walks(3, 2, [0, 1, 1, 0, 1, 2])), ([2], [3]))


class Refusals(oracle.WalkRefusals, unittest.TestCase):
    asked = staticmethod(rounds)


class NothingKept(oracle.NothingKept, unittest.TestCase):
    asked = staticmethod(rounds)
    CALLS = [
        (5, 12, flat(5, whole(5))),
        (2, 12, [0, 0, 0, 1, 1, 0]),
        (3, 0, [0, 1]),
        (1, 4, []),
        (2, 13, [0, 1]),
        (2, 3, [1, 0, 0, 1]),
        (2, 3, [0, 1, 1]),
        (5, 3, [LARGEST] * 60),
    ]

    def due_length(self, answer):
        return 1


if __name__ == "__main__":
    unittest.main()
