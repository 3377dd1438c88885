"""What several test files need: the ends of the ranges, and a list that tells when it is changed."""

LOW = -2**63
HIGH = 2**63 - 1
FUNCTION_MOST = 2147483647
C_MOST = 2**64 - 1
ROW_MOST = 4096
ANSWERS_MOST = 16000


def refuse(self, *args, **kwargs):
    raise AssertionError("a list that was handed in is changed")


class Unchanging(list):
    """A list that can be read alone, so that a change that's undone later shows too."""

    append = clear = extend = insert = pop = remove = reverse = sort = refuse
    __setitem__ = __delitem__ = __iadd__ = __imul__ = refuse


def numbers(count, step):
    """A row of that many different numbers, below and above 0, all within the range."""
    return [(k - count // 2) * step for k in range(count)]


def askings(f, c, firsts, seconds=None):
    """What was asked, with how many numbers it has ahead of it; without seconds, each is 0."""
    flat = []
    if seconds is None:
        seconds = [0] * len(firsts)
    for first, second in zip(firsts, seconds, strict=True):
        flat += [f, c, first, second]
    return [len(flat)] + flat


def check_long(case, result, expected):
    """Compare long lists by their first difference: unittest's own account of it takes many minutes there."""
    if result == expected:
        return
    for k, (got, wanted) in enumerate(zip(result, expected)):
        if got != wanted:
            case.fail(f"at {k} there is {got}, not {wanted}")
    case.fail(f"there are {len(result)} numbers, not {len(expected)}")
