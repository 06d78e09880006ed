"""counts: of each graph of k places, how many maps there are from it (points 1 and 2)."""

import unittest
from itertools import permutations

from mapcounts.graphs import counts, differ, number, rounds, walks
from tests import oracle
from tests.oracle import LARGER, LARGEST, NO_GRAPHS, flat, numbers, whole

SMALL = [(n, a) for n in (1, 2, 3) for a in numbers(n)]


class Ordinary(unittest.TestCase):
    def test_graphs_of_one_to_five_places(self):
        for n, a in SMALL + LARGER:
            for k in (1, 2):
                with self.subTest(n=n, a=a, k=k):
                    self.assertEqual(counts(n, k, flat(n, a)), [2 ** (k * k)] + oracle.map_counts(k, n, a))

    def test_from_one_place(self):
        self.assertEqual(counts(2, 1, [0, 1, 1, 0]), [2, 2, 0])
        self.assertEqual(counts(3, 1, [0, 0, 1, 2, 2, 2]), [2, 3, 2])
        self.assertEqual(counts(5, 1, [0, 1, 4, 4]), [2, 5, 1])

    def test_from_two_places(self):
        self.assertEqual(counts(2, 2, [0, 1]), [16, 4, 0, 1, 0, 1] + [0] * 11)
        self.assertEqual(counts(2, 2, [0, 1, 1, 0]), [16, 4, 0, 2, 0, 2, 0, 2] + [0] * 9)
        self.assertEqual(counts(2, 2, [0, 0, 0, 1]), [16, 4, 2, 2, 2, 2, 1, 1, 1, 2, 1, 1, 1, 2, 1, 1, 1])
        self.assertEqual(counts(3, 2, [2, 2]), [16, 9, 3] + [1] * 6 + [3] + [1] * 7)


class Edges(unittest.TestCase):
    def test_one_place(self):
        self.assertEqual(counts(1, 1, []), [2, 1, 0])
        self.assertEqual(counts(1, 1, [0, 0]), [2, 1, 1])
        self.assertEqual(counts(1, 2, []), [16, 1] + [0] * 15)
        self.assertEqual(counts(1, 2, [0, 0]), [16] + [1] * 16)

    def test_no_arrows(self):
        for n in range(1, 6):
            self.assertEqual(counts(n, 1, []), [2, n, 0])
            self.assertEqual(counts(n, 2, []), [16, n * n] + [0] * 15)

    def test_every_arrow(self):
        for n in range(1, 6):
            self.assertEqual(counts(n, 1, flat(n, whole(n))), [2, n, n])
            self.assertEqual(counts(n, 2, flat(n, whole(n))), [16] + [n * n] * 16)

    def test_the_same_but_for_names(self):
        for n, a in SMALL[::11] + LARGER[::10]:
            for names in list(permutations(range(n)))[::5]:
                b = oracle.renamed(n, a, names)
                for k in (1, 2):
                    with self.subTest(n=n, a=a, names=names, k=k):
                        self.assertEqual(counts(n, k, flat(n, a)), counts(n, k, flat(n, b)))

    def test_turned_about(self):
        self.assertEqual(counts(2, 2, [0, 0, 1, 0]), [16, 4, 2, 2, 1, 2, 2, 1, 1, 2, 1, 2, 1, 1, 1, 1, 1])
        self.assertEqual(counts(3, 2, [0, 1, 0, 2]), counts(3, 2, [1, 0, 2, 0]))
        for n, a in SMALL[::7] + LARGER[::10]:
            with self.subTest(n=n, a=a):
                told = counts(n, 2, flat(n, a))[1:]
                about = counts(n, 2, flat(n, oracle.turned(n, a)))[1:]
                # Into one turned about there are as many as into it from the other turned about.
                self.assertEqual(about, [told[oracle.turned(2, b)] for b in numbers(2)])

    def test_as_many_but_not_the_same(self):
        self.assertEqual(counts(3, 2, [0, 1, 0, 2]), counts(3, 2, [0, 1, 1, 2]))
        self.assertNotEqual(differ(3, 3, [0, 1, 0, 2], [0, 1, 1, 2]), [-6])

    def test_more_places_and_as_many_maps(self):
        one, two = counts(1, 1, [0, 0]), counts(2, 1, [0, 0])
        self.assertEqual((one, two), ([2, 1, 1], [2, 2, 1]))

    def test_what_differ_tells(self):
        seen = {1: 0, 2: 0}
        for n, a in SMALL[::5]:
            for m, b in SMALL[::9]:
                told = differ(n, m, flat(n, a), flat(m, b))
                if told[0] not in seen:
                    continue
                seen[told[0]] += 1
                k, at, one, two = told
                with self.subTest(n=n, a=a, m=m, b=b):
                    self.assertEqual(counts(n, k, flat(n, a))[1 + at], one)
                    self.assertEqual(counts(m, k, flat(m, b))[1 + at], two)
        self.assertTrue(all(seen.values()))

    def test_walks_and_rounds_among_them(self):
        path, ring = number(2, [0, 1])[0], number(2, [0, 1, 1, 0])[0]
        for n, a in SMALL[::5] + LARGER[::5]:
            first = flat(n, a)
            with self.subTest(n=n, a=a):
                of_one, of_two = counts(n, 1, first)[1:], counts(n, 2, first)[1:]
                self.assertEqual(of_one, walks(n, 0, first) + rounds(n, 1, first))
                self.assertEqual([of_two[path], of_two[ring]], walks(n, 1, first) + rounds(n, 2, first))


class Refusals(unittest.TestCase):
    def test_no_graph(self):
        for why, n, first in NO_GRAPHS:
            for k in (1, 2):
                with self.subTest(why, k=k):
                    self.assertEqual(counts(n, k, first), [-22])

    def test_not_so_many_places(self):
        for k in (0, 3, 4, 5, 6, 12, 13, 2 ** 16, 2 ** 31, LARGEST):
            for n in range(1, 6):
                with self.subTest(n=n, k=k):
                    self.assertEqual(counts(n, k, []), [-22])
                    self.assertEqual(counts(n, k, [0, 0]), [-22])
                    self.assertEqual(counts(n, k, flat(n, whole(n))), [-22])

    def test_neither_the_graph_nor_the_places(self):
        for why, n, first in NO_GRAPHS:
            for k in (0, 3, LARGEST):
                with self.subTest(why, k=k):
                    self.assertEqual(counts(n, k, first), [-22])


class NothingKept(oracle.NothingKept, unittest.TestCase):
    asked = staticmethod(counts)
    CALLS = [
        (5, 2, flat(5, whole(5))),
        (3, 2, [0, 1, 0, 2]),
        (3, 1, [0, 1, 0, 2]),
        (1, 1, []),
        (1, 2, [0, 0]),
        (2, 0, [0, 1]),
        (2, 3, [0, 1]),
        (2, 2, [1, 0, 0, 1]),
        (2, 1, [0, 1, 1]),
        (5, 2, [LARGEST] * 60),
    ]

    def due_length(self, answer):
        return {2: 3, 16: 17}[answer[0]]


if __name__ == "__main__":
    unittest.main()
