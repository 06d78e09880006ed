"""walks: how many walks of k arrows there are (points 1 and 3)."""

import unittest

from mapcounts.graphs import walks
from tests import oracle
from tests.oracle import flat, numbers, whole


class Ordinary(unittest.TestCase):
    def test_every_graph_of_one_or_two_places(self):
        for n in (1, 2):
            for a in numbers(n):
                for k in range(8):
                    with self.subTest(n=n, a=a, k=k):
                        self.assertEqual(walks(n, k, flat(n, a)), [oracle.walks(n, k, a)])

    def test_every_graph_of_three_places(self):
        for a in numbers(3):
            for k in range(4):
                with self.subTest(a=a, k=k):
                    self.assertEqual(walks(3, k, flat(3, a)), [oracle.walks(3, k, a)])

    def test_graphs_of_four_and_five_places(self):
        for n, stride in ((4, 997), (5, 524287)):
            for a in range(0, 2 ** (n * n), stride):
                for k in range(4):
                    with self.subTest(n=n, a=a, k=k):
                        self.assertEqual(walks(n, k, flat(n, a)), [oracle.walks(n, k, a)])

    def test_told_by_hand(self):
        self.assertEqual(walks(3, 1, [0, 1, 1, 2]), [2])
        self.assertEqual(walks(3, 2, [0, 1, 1, 2]), [1])
        self.assertEqual(walks(3, 3, [0, 1, 1, 2]), [0])
        self.assertEqual(walks(2, 5, [0, 0, 0, 1]), [2])
        self.assertEqual(walks(2, 5, [0, 0, 0, 1, 1, 1]), [7])
        self.assertEqual(walks(3, 2, [0, 1, 0, 2, 1, 0]), [3])


class Edges(unittest.TestCase):
    def test_one_place(self):
        for k in range(13):
            self.assertEqual(walks(1, k, [0, 0]), [1])
            self.assertEqual(walks(1, k, []), [1 if k == 0 else 0])

    def test_no_arrows_walked(self):
        for n in range(1, 6):
            self.assertEqual(walks(n, 0, []), [n])
            self.assertEqual(walks(n, 0, [0, 0]), [n])
            self.assertEqual(walks(n, 0, flat(n, whole(n))), [n])

    def test_one_arrow_walked(self):
        for n in range(1, 6):
            self.assertEqual(walks(n, 1, []), [0])
            self.assertEqual(walks(n, 1, [n - 1, 0]), [1])
            self.assertEqual(walks(n, 1, flat(n, whole(n))), [n * n])

    def test_twelve_arrows_walked(self):
        self.assertEqual(walks(2, 12, [0, 0, 0, 1, 1, 0]), [610])
        self.assertEqual(walks(5, 12, [0, 1, 1, 2, 2, 3, 3, 4]), [0])
        self.assertEqual(walks(5, 12, [0, 1, 1, 2, 2, 3, 3, 4, 4, 0]), [5])
        self.assertEqual(walks(5, 12, [0, 0, 1, 1, 2, 2, 3, 3, 4, 4]), [5])
        for n in range(1, 6):
            self.assertEqual(walks(n, 12, flat(n, whole(n))), [n ** 13])
        for a in numbers(2):
            self.assertEqual(walks(2, 12, flat(2, a)), [oracle.walks(2, 12, a)])

    def test_as_many_walks_turned_about(self):
        for a in range(0, 512, 7):
            for k in (2, 5, 12):
                self.assertEqual(walks(3, k, flat(3, a)), walks(3, k, flat(3, oracle.turned(3, a))))


class Refusals(oracle.WalkRefusals, unittest.TestCase):
    asked = staticmethod(walks)


class NothingKept(oracle.NothingKept, unittest.TestCase):
    asked = staticmethod(walks)
    CALLS = [
        (5, 12, flat(5, whole(5))),
        (2, 12, [0, 0, 0, 1, 1, 0]),
        (3, 0, [0, 1]),
        (1, 4, []),
        (2, 13, [0, 1]),
        (2, 3, [1, 0, 0, 1]),
        (2, 3, [0, 1, 1]),
    ]

    def due_length(self, answer):
        return 1


if __name__ == "__main__":
    unittest.main()
