"""Rows gone through by functions that are handed over, with all that was asked of these told in order.

A function is its number here, and the list answers holds what it says, asking by asking.
"""

# Stands in a function's place where a number is to stay as it is.
NO_FUNCTION = -1


def ask(answers, asked, f, c, x, y=0):
    """Tell one asking at the end of asked and give back its answer: 0 once the answers are used up."""
    # Each asking tells four numbers, so what was asked so far also says how many answers are used.
    turn = len(asked) // 4
    asked.extend([f, c, x, y])
    if turn < len(answers):
        return answers[turn]
    return 0


def given_back(number, told, asked):
    """Lay out the three things that a call answers as one list."""
    return [number, len(told)] + told + [len(asked)] + asked


def fold(f, c, begin, a, answers):
    """Answer r: begin at first, then f (c, r, x) for each x of a from the front on."""
    asked = []
    r = begin
    for x in a:
        r = ask(answers, asked, f, c, r, x)
    return given_back(r, [], asked)


def back(f, c, begin, a, answers):
    """Answer r: begin at first, then f (c, x, r) for each x of a from the end on."""
    asked = []
    r = begin
    for x in reversed(a):
        r = ask(answers, asked, f, c, x, r)
    return given_back(r, [], asked)


def scan(f, c, begin, a, answers):
    """Go through a as fold does, and tell r after each number."""
    asked = []
    told = []
    r = begin
    for x in a:
        r = ask(answers, asked, f, c, r, x)
        told.append(r)
    return given_back(len(a), told, asked)


def map_row(g, c, a, answers):
    """Tell g (c, x) for each x of a from the front on; with -1 for g, x itself."""
    asked = []
    told = []
    for x in a:
        if g == NO_FUNCTION:
            told.append(x)
        else:
            told.append(ask(answers, asked, g, c, x))
    return given_back(len(a), told, asked)


def keep(p, c, a, answers):
    """Tell those x of a of which p (c, x) isn't 0, asked from the front on."""
    asked = []
    told = []
    for x in a:
        if ask(answers, asked, p, c, x) != 0:
            told.append(x)
    return given_back(len(told), told, asked)


def split(p, c, a, answers):
    """Tell first those x of a of which p (c, x) isn't 0, then the others, and answer how many the first are."""
    asked = []
    first = []
    others = []
    for x in a:
        if ask(answers, asked, p, c, x) != 0:
            first.append(x)
        else:
            others.append(x)
    return given_back(len(first), first + others, asked)


def pairs(f, c, a, answers):
    """Tell f (c, x, y) of each two neighbours x and y of a, from the front on."""
    asked = []
    told = []
    for k in range(1, len(a)):
        told.append(ask(answers, asked, f, c, a[k - 1], a[k]))
    return given_back(len(told), told, asked)


def once(same, c, a, answers):
    """Tell the first number of a and each further x of which same (c, the one kept last, x) is 0."""
    asked = []
    kept = a[:1]
    for x in a[1:]:
        if ask(answers, asked, same, c, kept[-1], x) == 0:
            kept.append(x)
    return given_back(len(kept), kept, asked)


def merge(less, c, a, b, answers):
    """Put a and b together: of the first ones left, x of a and y of b, y is taken where less (c, y, x) isn't 0."""
    asked = []
    taken = []
    at_a = 0
    at_b = 0
    while at_a < len(a) and at_b < len(b):
        if ask(answers, asked, less, c, b[at_b], a[at_a]) != 0:
            taken.append(b[at_b])
            at_b += 1
        else:
            taken.append(a[at_a])
            at_a += 1
    # One of the two has no numbers left here, so their order doesn't matter.
    told = taken + a[at_a:] + b[at_b:]
    return given_back(len(told), told, asked)


def unfold(x, g, p, c, most, answers):
    """Tell x, then g of each value told, until p of a value is 0 or most are told."""
    asked = []
    told = []
    value = x
    while len(told) < most:
        if ask(answers, asked, p, c, value) == 0:
            break
        told.append(value)
        # Behind the last one told no value is needed, so none may be asked for.
        if len(told) < most:
            value = ask(answers, asked, g, c, value)
    return given_back(len(told), told, asked)


def times(x, k, g, c, answers):
    """Answer what x is once it has become g (c, x) k times, or came out as it went in before that."""
    asked = []
    value = x
    for turn in range(k):
        before = value
        value = ask(answers, asked, g, c, before)
        if value == before:
            break
    return given_back(value, [], asked)


def both(x, g, h, c, answers):
    """Answer h of g of x; -1 for either leaves the number as it is."""
    asked = []
    value = x
    for f in (g, h):
        if f != NO_FUNCTION:
            value = ask(answers, asked, f, c, value)
    return given_back(value, [], asked)


def search(lo, hi, p, c, answers):
    """Answer lo once it has met hi: of the middle m, hi becomes m where p (c, m) isn't 0, else lo becomes m + 1."""
    asked = []
    low = lo
    high = hi
    while low < high:
        middle = low + (high - low) // 2
        if ask(answers, asked, p, c, middle) != 0:
            high = middle
        else:
            low = middle + 1
    return given_back(low, [], asked)
