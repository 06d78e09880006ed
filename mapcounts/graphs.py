"""Graphs that are told by how many maps there are into them."""

NOT_AS_TOLD = -22
TOO_MANY_PLACES = -75
NOT_TOLD_APART = -6

MOST_PLACES = 5
MOST_PLACES_OF_DIFFER = 3
MOST_PLACES_BY_NUMBER = 3
MOST_PLACES_OF_COUNTS = 2
MOST_STEPS = 12


def pairs_of(flat):
    """Give the arrows of a flat list as pairs: from where, to where."""
    return [(flat[at], flat[at + 1]) for at in range(0, len(flat), 2)]


def is_graph(places, flat):
    """Say whether so many places and this flat list are a graph as told."""
    if places < 1 or places > MOST_PLACES or len(flat) % 2 == 1:
        return False
    last_rank = -1
    for start, end in pairs_of(flat):
        if start >= places or end >= places:
            return False
        # Ranks rise just as arrows do, but only once both places are known to be there.
        rank = start * places + end
        if rank <= last_rank:
            return False
        last_rank = rank
    return True


def how_many_graphs(places):
    """Count the graphs of so many places: each of the possible arrows is there or not."""
    total = 1
    for rank in range(places * places):
        total = total * 2
    return total


def arrows_by_number(places, told):
    """Give the arrows, as pairs, of the graph of so many places with the number told."""
    arrows = []
    rest = told
    for start in range(places):
        for end in range(places):
            if rest % 2 == 1:
                arrows.append((start, end))
            rest = rest // 2
    return arrows


def number_by_arrows(places, arrows):
    """Give the number of the graph of so many places with these arrows, told as pairs."""
    total = 0
    worth = 1
    for start in range(places):
        for end in range(places):
            if (start, end) in arrows:
                total = total + worth
            worth = worth * 2
    return total


def arrow_table(places, arrows):
    """Give row by row, from place to place, whether there is an arrow."""
    table = []
    for start in range(places):
        table.append([(start, end) in arrows for end in range(places)])
    return table


def all_choices(places, images):
    """List, in order, all ways to give each place one of the images."""
    choices = [[]]
    for place in range(places):
        choices = longer_choices(choices, images)
    return choices


def longer_choices(choices, images):
    """List each choice with each image put behind it."""
    longer = []
    for choice in choices:
        for image in range(images):
            longer.append(choice + [image])
    return longer


def is_map(choice, arrows, table):
    """Say whether each arrow becomes one that the table has."""
    for start, end in arrows:
        if not table[choice[start]][choice[end]]:
            return False
    return True


def count_maps(arrows, choices, table):
    """Count the choices that are maps into the graph of the table."""
    total = 0
    for choice in choices:
        if is_map(choice, arrows, table):
            total = total + 1
    return total


def first_apart(places, first_table, second_table):
    """Tell the first graph of so many places that tells the two apart; an empty list if none does."""
    first_choices = all_choices(places, len(first_table))
    second_choices = all_choices(places, len(second_table))
    for told in range(how_many_graphs(places)):
        arrows = arrows_by_number(places, told)
        into_first = count_maps(arrows, first_choices, first_table)
        into_second = count_maps(arrows, second_choices, second_table)
        if into_first != into_second:
            return [places, told, into_first, into_second]
    return []


def differ(n, m, first, second):
    """Tell the first graph from which there are not as many maps into both: places, number, both counts."""
    if not is_graph(n, first) or not is_graph(m, second):
        return [NOT_AS_TOLD]
    if max(n, m) > MOST_PLACES_OF_DIFFER:
        return [TOO_MANY_PLACES]
    first_table = arrow_table(n, pairs_of(first))
    second_table = arrow_table(m, pairs_of(second))
    for places in range(1, max(n, m) + 1):
        apart = first_apart(places, first_table, second_table)
        if len(apart) > 0:
            return apart
    return [NOT_TOLD_APART]


def one_arrow_longer(ending, arrows):
    """From how many walks end at each place, count those that go on by one arrow more."""
    longer = [0 for place in ending]
    for start, end in arrows:
        longer[end] = longer[end] + ending[start]
    return longer


def longer_by(steps, ending, arrows):
    """From how many walks end at each place, count those that go on by so many arrows more."""
    longer = ending
    for step in range(steps):
        longer = one_arrow_longer(longer, arrows)
    return longer


def walks(n, k, first):
    """Count the walks of k arrows."""
    if not is_graph(n, first) or k > MOST_STEPS:
        return [NOT_AS_TOLD]
    return [sum(longer_by(k, [1 for place in range(n)], pairs_of(first)))]


def rounds(n, k, first):
    """Count the walks of k arrows that come back."""
    if not is_graph(n, first) or k > MOST_STEPS:
        return [NOT_AS_TOLD]
    arrows = pairs_of(first)
    total = 0
    # Counted place by place, as the counts don't keep where a walk began.
    for home in range(n):
        from_home = [1 if place == home else 0 for place in range(n)]
        total = total + longer_by(k, from_home, arrows)[home]
    return [total]


def graph(k, a):
    """Tell how many arrows the graph of k places with number a has, then these."""
    # How many graphs there are is asked last: it is only small enough to count for few places.
    if k < 1 or k > MOST_PLACES_BY_NUMBER or a >= how_many_graphs(k):
        return [NOT_AS_TOLD]
    arrows = arrows_by_number(k, a)
    answer = [len(arrows)]
    for start, end in arrows:
        answer.extend([start, end])
    return answer


def number(n, first):
    """Tell the graph's number."""
    if not is_graph(n, first):
        return [NOT_AS_TOLD]
    return [number_by_arrows(n, pairs_of(first))]


def counts(n, k, first):
    """Tell how many graphs of k places there are, then of each, by its number, how many maps into this one."""
    if not is_graph(n, first) or k < 1 or k > MOST_PLACES_OF_COUNTS:
        return [NOT_AS_TOLD]
    table = arrow_table(n, pairs_of(first))
    choices = all_choices(k, n)
    graphs_of_k = how_many_graphs(k)
    answer = [graphs_of_k]
    for told in range(graphs_of_k):
        answer.append(count_maps(arrows_by_number(k, told), choices, table))
    return answer


def gives_each(choice, images):
    """Say whether the choice gives each of the images to some place."""
    for image in range(images):
        if image not in choice:
            return False
    return True


def onto(n, m, first, second):
    """Count the maps of the first into the second that give each place of the second."""
    if not is_graph(n, first) or not is_graph(m, second):
        return [NOT_AS_TOLD]
    choices = [choice for choice in all_choices(n, m) if gives_each(choice, m)]
    return [count_maps(pairs_of(first), choices, arrow_table(m, pairs_of(second)))]
