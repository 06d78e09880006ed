"""number: the number of a graph (points 1 and 3)."""

import unittest

from mapcounts.graphs import differ, graph, number
from tests import oracle
from tests.oracle import LARGER, LARGEST, NO_GRAPHS, flat, numbers, whole


class Ordinary(unittest.TestCase):
    def test_every_graph_of_one_to_three_places(self):
        for n in (1, 2, 3):
            for a in numbers(n):
                with self.subTest(n=n, a=a):
                    self.assertEqual(number(n, flat(n, a)), [a])

    def test_graphs_of_four_and_five_places(self):
        for n, a in LARGER:
            with self.subTest(n=n, a=a):
                self.assertEqual(number(n, flat(n, a)), [a])

    def test_told_by_hand(self):
        self.assertEqual(number(2, [0, 1, 1, 0]), [6])
        self.assertEqual(number(2, [0, 0, 1, 1]), [9])
        self.assertEqual(number(3, [0, 1, 0, 2]), [6])
        self.assertEqual(number(3, [0, 1, 1, 2, 2, 0]), [98])
        self.assertEqual(number(4, [0, 1, 1, 2, 2, 3]), [2114])
        self.assertEqual(number(5, [0, 1, 1, 2, 2, 3, 3, 4, 4, 0]), [1581186])


class Edges(unittest.TestCase):
    def test_one_place(self):
        self.assertEqual(number(1, []), [0])
        self.assertEqual(number(1, [0, 0]), [1])

    def test_no_arrows(self):
        for n in range(1, 6):
            self.assertEqual(number(n, []), [0])

    def test_every_arrow(self):
        for n, due in ((1, 1), (2, 15), (3, 511), (4, 65535), (5, 33554431)):
            every = [place for u in range(n) for v in range(n) for place in (u, v)]
            self.assertEqual(number(n, every), [due])

    def test_each_arrow_alone(self):
        for n in range(1, 6):
            for u in range(n):
                for v in range(n):
                    with self.subTest(n=n, u=u, v=v):
                        self.assertEqual(number(n, [u, v]), [2 ** (u * n + v)])

    def test_every_arrow_but_one(self):
        for n in range(1, 6):
            for rank in range(n * n):
                with self.subTest(n=n, rank=rank):
                    a = whole(n) - 2 ** rank
                    self.assertEqual(number(n, flat(n, a)), [a])

    def test_the_same_arrows_among_more_places(self):
        self.assertEqual([number(n, [1, 0]) for n in range(2, 6)], [[4], [8], [16], [32]])
        self.assertEqual([number(n, [0, 1]) for n in range(2, 6)], [[2]] * 4)

    def test_two_turned_about(self):
        self.assertEqual((number(2, [0, 1]), number(2, [1, 0])), ([2], [4]))
        self.assertEqual((number(3, [0, 1, 0, 2]), number(3, [1, 0, 2, 0])), ([6], [72]))

    def test_graph_and_number_undo_one_another(self):
        for k in (1, 2, 3):
            for a in numbers(k):
                with self.subTest(k=k, a=a):
                    told = graph(k, a)
                    self.assertEqual(number(k, told[1:]), [a])
                    self.assertEqual(graph(k, number(k, flat(k, a))[0])[1:], flat(k, a))

    def test_the_graph_that_differ_tells(self):
        k, a, one, two = differ(3, 3, [0, 1, 0, 2], [1, 0, 2, 0])
        self.assertEqual(number(k, [0, 1, 0, 2]), [a])
        self.assertEqual((one, two), (4, 2))


class Refusals(unittest.TestCase):
    def test_no_graph(self):
        for why, n, first in NO_GRAPHS:
            with self.subTest(why):
                self.assertEqual(number(n, first), [-22])

    def test_not_so_many_places(self):
        for n in (0, 6, 7, 12, 2 ** 16, 2 ** 31, LARGEST):
            for first in ([], [0, 0], [0, 1, 1, 0], [0], [1, 0, 0, 1], [LARGEST] * 60):
                with self.subTest(n=n, first=first):
                    self.assertEqual(number(n, first), [-22])

    def test_places_that_are_not_there(self):
        for n in range(1, 6):
            for beyond in (n, n + 1, 2 ** 31, LARGEST):
                for first in ([beyond, 0], [0, beyond], [beyond, beyond], [0, 0, beyond, 0], [0, 0, 0, beyond]):
                    with self.subTest(n=n, first=first):
                        self.assertEqual(number(n, first), [-22])

    def test_every_two_arrows_that_do_not_rise(self):
        for n in range(1, 4):
            every = [(u, v) for u in range(n) for v in range(n)]
            for one in every:
                for two in every:
                    with self.subTest(n=n, one=one, two=two):
                        refused = number(n, [*one, *two]) == [-22]
                        self.assertEqual(refused, one >= two)

    def test_several_at_once(self):
        for n, first in (
            (0, [0, 1, 0]),
            (6, [9, 9, 0, 0, 1]),
            (2, [1, 1, 0, 2]),
            (2, [0, 2, 0, 2]),
            (2, [1, 0, 1, 0, 2]),
            (LARGEST, [LARGEST] * 59),
        ):
            with self.subTest(n=n, first=first):
                self.assertEqual(number(n, first), [-22])


class NothingKept(oracle.NothingKept, unittest.TestCase):
    asked = staticmethod(number)
    CALLS = [
        (5, flat(5, whole(5))),
        (3, [0, 1, 0, 2]),
        (1, []),
        (1, [0, 0]),
        (0, []),
        (2, [1, 0, 0, 1]),
        (2, [0, 1, 1]),
        (5, [LARGEST] * 60),
    ]

    def due_length(self, answer):
        return 1


if __name__ == "__main__":
    unittest.main()
