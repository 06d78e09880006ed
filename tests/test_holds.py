"""What holds, a to d, and what holds over all seven calls, shown by the calls themselves."""

import copy
import unittest
from pathlib import Path

from mapcounts import graphs
from mapcounts.graphs import counts, differ, graph, number, onto, rounds, walks
from tests import oracle
from tests.oracle import LARGER, flat, numbers, one_of_each, parts, path, ring, whole

KINDS = {n: one_of_each(n) for n in (1, 2, 3)}
SPREAD = [(n, a) for n in (1, 2) for a in numbers(n)] + [(3, a) for a in range(0, 512, 17)] + LARGER[::9]


def all_maps(k, b, n, a):
    """How many maps there are of (k, b) into (n, a), by onto: each gives each place of just one set of places."""
    return sum(onto(k, size, flat(k, b), flat(size, part))[0] for size, part in parts(n, a))


class SameButForNames(unittest.TestCase):
    """a: into which there are as many maps from each graph of no more places."""

    def test_by_counts(self):
        small = [(n, a) for n in (1, 2) for a in numbers(n)]
        for n, a in small:
            for m, b in small:
                most = max(n, m)
                as_many = all(counts(n, k, flat(n, a)) == counts(m, k, flat(m, b)) for k in range(1, most + 1))
                with self.subTest(n=n, a=a, m=m, b=b):
                    self.assertEqual(as_many, n == m and oracle.same_but_for_names(n, a, b))

    def test_by_differ(self):
        kinds = [(n, a) for n in (1, 2) for a in KINDS[n]] + [(3, a) for a in KINDS[3][::3]]
        for n, a in kinds:
            for m, b in kinds:
                other = oracle.renamed(m, b, tuple(reversed(range(m))))
                with self.subTest(n=n, a=a, m=m, b=b):
                    told = differ(n, m, flat(n, a), flat(m, other))
                    self.assertEqual(told == [-6], (n, a) == (m, b))

    def test_onto_agrees(self):
        # With as many places and as many arrows, a map that gives each place hits each arrow, too.
        for a in KINDS[3][::2]:
            for b in KINDS[3]:
                if len(flat(3, a)) == len(flat(3, b)):
                    with self.subTest(a=a, b=b):
                        same = differ(3, 3, flat(3, a), flat(3, b)) == [-6]
                        self.assertEqual(onto(3, 3, flat(3, a), flat(3, b)) != [0], same)


class WalksAreMaps(unittest.TestCase):
    """b: walks are maps of a path, those that come back maps of a ring."""

    def test_of_a_path(self):
        for n, a in SPREAD:
            for k in range(5):
                with self.subTest(n=n, a=a, k=k):
                    self.assertEqual(walks(n, k, flat(n, a)), [all_maps(k + 1, path(k + 1), n, a)])

    def test_of_a_ring(self):
        for n, a in SPREAD:
            for k in range(1, 6):
                with self.subTest(n=n, a=a, k=k):
                    self.assertEqual(rounds(n, k, flat(n, a)), [all_maps(k, ring(k), n, a)])

    def test_by_counts(self):
        for n, a in SPREAD:
            first = flat(n, a)
            for k in (1, 2):
                told = counts(n, k, first)[1:]
                with self.subTest(n=n, a=a, k=k):
                    self.assertEqual([told[path(k)]], walks(n, k - 1, first))
                    self.assertEqual([told[ring(k)]], rounds(n, k, first))

    def test_by_number(self):
        for k in range(1, 6):
            line = [place for u in range(k - 1) for place in (u, u + 1)]
            self.assertEqual(number(k, line), [path(k)])
            self.assertEqual(number(k, line + [k - 1, 0]), [ring(k)])


class FirstThatTellsApart(unittest.TestCase):
    """c: the graph told is the first that tells them apart."""

    @classmethod
    def setUpClass(cls):
        cls.kinds = [(2, a) for a in KINDS[2]] + [(3, a) for a in [6, 72] + KINDS[3][::13]]
        cls.told = {kind: cls.all_counts(*kind) for kind in cls.kinds}

    @staticmethod
    def all_counts(n, a):
        """Of each graph of 1 to 3 places, in order: how many places, its number, how many maps there are from it."""
        rows = [(k, b, one) for k in (1, 2) for b, one in enumerate(counts(n, k, flat(n, a))[1:])]
        return rows + [(3, b, all_maps(3, b, n, a)) for b in numbers(3)]

    def test_none_ahead_of_it(self):
        seen = set()
        for n, a in self.kinds:
            for m, b in self.kinds:
                both = zip(self.told[n, a], self.told[m, b])
                apart = [[k, at, one, two] for (k, at, one), (k, at, two) in both if one != two and k <= max(n, m)]
                due = apart[0] if apart else [-6]
                seen.add(due[0])
                with self.subTest(n=n, a=a, m=m, b=b):
                    self.assertEqual(differ(n, m, flat(n, a), flat(m, b)), due)
        self.assertEqual(seen, {-6, 1, 2, 3})

    def test_it_is_a_graph_that_graph_tells(self):
        for n, a in self.kinds:
            for m, b in self.kinds:
                told = differ(n, m, flat(n, a), flat(m, b))
                if told != [-6]:
                    arrows = graph(told[0], told[1])[1:]
                    with self.subTest(n=n, a=a, m=m, b=b):
                        self.assertEqual(number(told[0], arrows), [told[1]])
                        self.assertEqual(all_maps(told[0], told[1], n, a), told[2])
                        self.assertEqual(all_maps(told[0], told[1], m, b), told[3])


class ThoseThatGiveEachPlace(unittest.TestCase):
    """d: of all sets of places the maps into what's between them, added or taken away."""

    def by_sets(self, n, a, how_many):
        # Into no places at all there are no maps, as each graph has a place.
        return [sum((-1) ** (n - size) * how_many(size, flat(size, part)) for size, part in parts(n, a))]

    def test_by_counts(self):
        for n, a in SPREAD:
            for k in (1, 2):
                for b in numbers(k):
                    due = self.by_sets(n, a, lambda size, part: counts(size, k, part)[1 + b])
                    with self.subTest(n=n, a=a, k=k, b=b):
                        self.assertEqual(onto(k, n, flat(k, b), flat(n, a)), due)

    def test_by_walks_and_rounds(self):
        for n, a in SPREAD:
            for k in range(1, 6):
                with self.subTest(n=n, a=a, k=k):
                    due = self.by_sets(n, a, lambda size, part: walks(size, k - 1, part)[0])
                    self.assertEqual(onto(k, n, flat(k, path(k)), flat(n, a)), due)
                    due = self.by_sets(n, a, lambda size, part: rounds(size, k, part)[0])
                    self.assertEqual(onto(k, n, flat(k, ring(k)), flat(n, a)), due)

    def test_by_all_maps_of_three_places(self):
        for n, a in SPREAD[::4]:
            for b in range(0, 512, 23):
                due = sum((-1) ** (n - size) * len(oracle.maps(3, size, b, part)) for size, part in parts(n, a))
                with self.subTest(n=n, a=a, b=b):
                    self.assertEqual(onto(3, n, flat(3, b), flat(n, a)), [due])


# Of each call: what is handed in, and what is answered.
CALLS = [
    ("differ", (3, 3, [0, 1, 0, 2], [1, 0, 2, 0]), [3, 6, 4, 2]),
    ("differ", (2, 2, [0, 1], [1, 0]), [-6]),
    ("differ", (4, 1, [], []), [-75]),
    ("differ", (4, 0, [], []), [-22]),
    ("walks", (2, 12, [0, 0, 0, 1, 1, 0]), [610]),
    ("walks", (2, 13, []), [-22]),
    ("rounds", (2, 12, [0, 0, 0, 1, 1, 0]), [322]),
    ("rounds", (2, 13, []), [-22]),
    ("graph", (3, 6), [2, 0, 1, 0, 2]),
    ("graph", (2, 0), [0]),
    ("graph", (3, 512), [-22]),
    ("number", (3, [0, 1, 0, 2]), [6]),
    ("number", (5, flat(5, whole(5))), [33554431]),
    ("number", (2, [0, 1, 0, 1]), [-22]),
    ("counts", (3, 1, [0, 0, 1, 2, 2, 2]), [2, 3, 2]),
    ("counts", (2, 2, [0, 1]), [16, 4, 0, 1, 0, 1] + [0] * 11),
    ("counts", (2, 3, [0, 1]), [-22]),
    ("onto", (3, 2, [0, 1], [0, 1]), [2]),
    ("onto", (2, 3, [0, 1], [0, 1]), [0]),
    ("onto", (2, 2, [0, 1], [0]), [-22]),
]


class AllSeven(unittest.TestCase):
    def asked_as_for_the_first_time(self, name, handed):
        made = {"__name__": "mapcounts.graphs"}
        exec(Path(graphs.__file__).read_text(), made)
        return made[name](*copy.deepcopy(handed))

    def test_each_behind_each_other(self):
        for name, handed, due in CALLS:
            self.assertEqual(self.asked_as_for_the_first_time(name, handed), due)
            for other, others_handed, others_due in CALLS:
                with self.subTest(name=name, other=other):
                    self.assertEqual(getattr(graphs, name)(*copy.deepcopy(handed)), due)
                    self.assertEqual(getattr(graphs, other)(*copy.deepcopy(others_handed)), others_due)

    def test_the_answer_is_a_list_of_its_own(self):
        for name, handed, due in CALLS:
            answer = getattr(graphs, name)(*handed)
            self.assertFalse(any(answer is value for value in handed))
            answer.clear()
            with self.subTest(name=name, handed=handed):
                self.assertEqual(getattr(graphs, name)(*handed), due)

    def test_what_is_handed_in_is_left_as_it_was(self):
        for name, handed, due in CALLS:
            kept = [oracle.Untouched(value) if isinstance(value, list) else value for value in handed]
            with self.subTest(name=name, handed=handed):
                self.assertEqual(getattr(graphs, name)(*kept), due)
                self.assertEqual(kept, list(handed))

    def test_nothing_is_kept_in_the_module(self):
        before = {name: copy.deepcopy(value) for name, value in vars(graphs).items() if not name.startswith("__")}
        for name, handed, due in CALLS:
            getattr(graphs, name)(*handed)
        after = {name: value for name, value in vars(graphs).items() if not name.startswith("__")}
        self.assertEqual(after, before)

    def test_just_the_counts_that_the_words_tell(self):
        for name, handed, due in CALLS:
            answer = getattr(graphs, name)(*handed)
            behind = {"differ": 3, "graph": 2 * answer[0], "counts": answer[0]}.get(name, 0)
            with self.subTest(name=name, handed=handed):
                self.assertEqual({type(value) for value in answer}, {int})
                self.assertEqual(len(answer), 1 if answer[0] < 0 else 1 + behind)
                self.assertEqual(answer[0] < 0, answer in ([-22], [-75], [-6]))

    def test_by_name(self):
        names = {
            "differ": ("n", "m", "first", "second"),
            "walks": ("n", "k", "first"),
            "rounds": ("n", "k", "first"),
            "graph": ("k", "a"),
            "number": ("n", "first"),
            "counts": ("n", "k", "first"),
            "onto": ("n", "m", "first", "second"),
        }
        self.assertEqual({name for name, handed, due in CALLS}, set(names))
        for name, handed, due in CALLS:
            with self.subTest(name=name, handed=handed):
                self.assertEqual(getattr(graphs, name)(**dict(zip(names[name], handed))), due)


if __name__ == "__main__":
    unittest.main()
