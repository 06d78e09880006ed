"""graph: the arrows of the graph of k places with number a (points 1 and 3)."""

import unittest

from mapcounts.graphs import differ, graph, walks
from tests import oracle
from tests.oracle import LARGEST, flat, numbers, whole

EVERY = [(k, a) for k in (1, 2, 3) for a in numbers(k)]


def pairs(answer):
    return list(zip(answer[1::2], answer[2::2]))


class Ordinary(unittest.TestCase):
    def test_every_graph_of_one_place(self):
        self.assertEqual([graph(1, a) for a in (0, 1)], [[0], [1, 0, 0]])

    def test_every_graph_of_two_places(self):
        due = [
            [0],
            [1, 0, 0],
            [1, 0, 1],
            [2, 0, 0, 0, 1],
            [1, 1, 0],
            [2, 0, 0, 1, 0],
            [2, 0, 1, 1, 0],
            [3, 0, 0, 0, 1, 1, 0],
            [1, 1, 1],
            [2, 0, 0, 1, 1],
            [2, 0, 1, 1, 1],
            [3, 0, 0, 0, 1, 1, 1],
            [2, 1, 0, 1, 1],
            [3, 0, 0, 1, 0, 1, 1],
            [3, 0, 1, 1, 0, 1, 1],
            [4, 0, 0, 0, 1, 1, 0, 1, 1],
        ]
        self.assertEqual([graph(2, a) for a in range(16)], due)

    def test_graphs_of_three_places_told_by_hand(self):
        self.assertEqual(graph(3, 6), [2, 0, 1, 0, 2])
        self.assertEqual(graph(3, 8), [1, 1, 0])
        self.assertEqual(graph(3, 2 + 32 + 64), [3, 0, 1, 1, 2, 2, 0])
        self.assertEqual(graph(3, 1 + 16 + 256), [3, 0, 0, 1, 1, 2, 2])
        self.assertEqual(graph(3, 4 + 128), [2, 0, 2, 2, 1])

    def test_every_graph(self):
        for k, a in EVERY:
            with self.subTest(k=k, a=a):
                due = flat(k, a)
                self.assertEqual(graph(k, a), [len(due) // 2] + due)


class Edges(unittest.TestCase):
    def test_no_arrows(self):
        for k in (1, 2, 3):
            self.assertEqual(graph(k, 0), [0])

    def test_every_arrow(self):
        self.assertEqual(graph(1, 1), [1, 0, 0])
        self.assertEqual(graph(2, 15), [4, 0, 0, 0, 1, 1, 0, 1, 1])
        self.assertEqual(graph(3, 511), [9, 0, 0, 0, 1, 0, 2, 1, 0, 1, 1, 1, 2, 2, 0, 2, 1, 2, 2])

    def test_one_arrow(self):
        for k in (1, 2, 3):
            for u in range(k):
                for v in range(k):
                    self.assertEqual(graph(k, 2 ** (u * k + v)), [1, u, v])

    def test_two_turned_about(self):
        self.assertEqual((graph(2, 2), graph(2, 4)), ([1, 0, 1], [1, 1, 0]))
        self.assertEqual((graph(3, 6), graph(3, 8 + 64)), ([2, 0, 1, 0, 2], [2, 1, 0, 2, 0]))

    def test_the_number_says_nothing_without_how_many_places(self):
        self.assertEqual((graph(2, 4), graph(3, 4)), ([1, 1, 0], [1, 0, 2]))

    def test_arrows_rise_and_as_many_as_said_are_told(self):
        for k, a in EVERY:
            with self.subTest(k=k, a=a):
                answer = graph(k, a)
                self.assertEqual(len(answer), 1 + 2 * answer[0])
                self.assertEqual(pairs(answer), sorted(set(pairs(answer))))

    def test_the_number_comes_back(self):
        for k, a in EVERY:
            with self.subTest(k=k, a=a):
                self.assertEqual(sum(2 ** (u * k + v) for u, v in pairs(graph(k, a))), a)

    def test_what_is_answered_may_be_handed_in(self):
        for k, a in EVERY:
            answer = graph(k, a)
            self.assertEqual(walks(k, 1, answer[1:]), [answer[0]])

    def test_the_graph_that_differ_tells(self):
        k, a, one, two = differ(3, 3, [0, 1, 0, 2], [1, 0, 2, 0])
        self.assertEqual(graph(k, a), [2, 0, 1, 0, 2])
        self.assertEqual((one, two), (4, 2))


class Refusals(unittest.TestCase):
    def test_not_so_many_places(self):
        for k in (0, 4, 5, 6, 12, 2 ** 16, 2 ** 31, LARGEST):
            for a in (0, 1):
                with self.subTest(k=k, a=a):
                    self.assertEqual(graph(k, a), [-22])

    def test_no_such_number(self):
        for k in (1, 2, 3):
            least = whole(k) + 1
            for a in (least, least + 1, 2 * least - 1, 2 * least, 2 ** 16, 2 ** 31, LARGEST):
                with self.subTest(k=k, a=a):
                    self.assertEqual(graph(k, a), [-22])

    def test_a_number_that_only_more_places_have(self):
        self.assertEqual(graph(1, 15), [-22])
        self.assertEqual(graph(2, 511), [-22])
        self.assertEqual(graph(3, 2 ** 16 - 1), [-22])

    def test_every_number_just_beyond(self):
        for k, most in ((1, 600), (2, 600), (3, 1200)):
            for a in range(whole(k) + 1, most):
                self.assertEqual(graph(k, a), [-22])

    def test_neither_the_places_nor_the_number(self):
        for k, a in ((0, 2), (0, LARGEST), (4, 2 ** 16), (5, 2 ** 25), (6, LARGEST), (LARGEST, LARGEST)):
            with self.subTest(k=k, a=a):
                self.assertEqual(graph(k, a), [-22])


class NothingKept(oracle.NothingKept, unittest.TestCase):
    asked = staticmethod(graph)
    CALLS = [(3, 511), (3, 6), (2, 6), (1, 0), (1, 2), (0, 0), (4, 6), (LARGEST, LARGEST)]

    def due_length(self, answer):
        return 1 + 2 * answer[0]


if __name__ == "__main__":
    unittest.main()
