import unittest

from handedover.rows import search
from support import ANSWERS_MOST, C_MOST, FUNCTION_MOST, HIGH, LOW, askings


def halves_to_the_end(answers):
    """The numbers asked of between LOW and HIGH and what is left then, told by counting from LOW in whole steps."""
    # Counted from 0, the two ends are 0 and 2^64 - 1, so nothing here is below 0.
    low, high, middles = 0, 2**64 - 1, []
    for answer in answers:
        if low == high:
            break
        middle = (low + high) >> 1
        middles.append(middle - 2**63)
        low, high = (low, middle) if answer else (middle + 1, high)
    return low - 2**63, high - 2**63, middles


class Search(unittest.TestCase):
    def test_asks_of_the_middle_and_goes_on_in_one_half(self):
        self.assertEqual(
            search(0, 16, 7, 5, [1, 0, 1, 0]),
            [6, 0, 16, 7, 5, 8, 0, 7, 5, 4, 0, 7, 5, 6, 0, 7, 5, 5, 0],
        )

    def test_all_0_ends_at_hi(self):
        self.assertEqual(search(0, 10, 7, 5, [0] * 9), [10, 0] + askings(7, 5, [5, 8, 9]))

    def test_none_0_ends_at_lo(self):
        self.assertEqual(search(0, 10, 7, 5, [1] * 9), [0, 0] + askings(7, 5, [5, 2, 1, 0]))

    def test_whatever_isn_t_0_makes_hi_the_middle(self):
        self.assertEqual(
            search(0, 64, 7, 5, [1, -1, 2, HIGH, LOW, 2**32, 1]),
            [0, 0] + askings(7, 5, [32, 16, 8, 4, 2, 1, 0]),
        )

    def test_an_odd_way_is_halved_down(self):
        self.assertEqual(search(10, 13, 7, 5, [1, 1]), [10, 0, 8, 7, 5, 11, 0, 7, 5, 10, 0])
        self.assertEqual(search(10, 13, 7, 5, [0, 1]), [12, 0, 8, 7, 5, 11, 0, 7, 5, 12, 0])
        self.assertEqual(search(10, 13, 7, 5, [0, 0]), [13, 0, 8, 7, 5, 11, 0, 7, 5, 12, 0])

    def test_lo_negative(self):
        self.assertEqual(search(-3, 4, 7, 5, [0, 0, 0]), [4, 0] + askings(7, 5, [0, 2, 3]))
        self.assertEqual(search(-4, 3, 7, 5, [1, 1, 1]), [-4, 0] + askings(7, 5, [-1, -3, -4]))
        self.assertEqual(search(-3, 2, 7, 5, [1, 0]), [-1, 0] + askings(7, 5, [-1, -2]))

    def test_both_negative(self):
        self.assertEqual(search(-10, -3, 7, 5, [1, 0, 1]), [-8, 0] + askings(7, 5, [-7, -9, -8]))
        self.assertEqual(search(-10, -7, 7, 5, [1, 1]), [-10, 0] + askings(7, 5, [-9, -10]))
        self.assertEqual(search(-9, -2, 7, 5, [0, 0, 0]), [-2, 0] + askings(7, 5, [-6, -4, -3]))

    def test_lo_as_great_as_hi_asks_nothing(self):
        for x in (0, 1, -1, 100, LOW, HIGH):
            with self.subTest(x=x):
                self.assertEqual(search(x, x, 7, 5, []), [x, 0, 0])
                self.assertEqual(search(x, x, 7, 5, [1, 0]), [x, 0, 0])

    def test_hi_one_more_than_lo(self):
        for lo in (0, -1, 41, -42, LOW, HIGH - 1):
            with self.subTest(lo=lo):
                self.assertEqual(search(lo, lo + 1, 7, 5, [1, 0]), [lo, 0, 4, 7, 5, lo, 0])
                self.assertEqual(search(lo, lo + 1, 7, 5, [0, 1]), [lo + 1, 0, 4, 7, 5, lo, 0])

    def test_no_answers(self):
        self.assertEqual(search(0, 4, 7, 5, []), [4, 0, 8, 7, 5, 2, 0, 7, 5, 3, 0])

    def test_fewer_answers_than_are_asked_for(self):
        self.assertEqual(search(0, 16, 7, 5, [1]), [8, 0] + askings(7, 5, [8, 4, 6, 7]))
        self.assertEqual(search(0, 16, 7, 5, [1, 1, 1]), [2, 0] + askings(7, 5, [8, 4, 2, 1]))

    def test_more_answers_than_are_asked_for(self):
        self.assertEqual(search(0, 3, 7, 5, [1, 1, 0, 0]), [0, 0, 8, 7, 5, 1, 0, 7, 5, 0, 0])
        self.assertEqual(search(0, 3, 7, 5, [1] * ANSWERS_MOST), [0, 0, 8, 7, 5, 1, 0, 7, 5, 0, 0])

    def test_the_ends_of_the_ranges(self):
        self.assertEqual(
            search(HIGH - 3, HIGH, FUNCTION_MOST, C_MOST, [0, LOW]),
            [HIGH - 1, 0] + askings(FUNCTION_MOST, C_MOST, [HIGH - 2, HIGH - 1]),
        )
        self.assertEqual(search(LOW, LOW + 3, 0, 0, [HIGH, 0]), [LOW + 1, 0] + askings(0, 0, [LOW + 1, LOW]))

    def test_the_whole_range_all_0(self):
        # From -1 on, the way left is halved, each time up to one below the next power of two.
        middles = [2**63 - 1 - 2**k for k in range(63, -1, -1)]
        for answers in ([], [0], [0] * 64, [0] * ANSWERS_MOST):
            with self.subTest(count=len(answers)):
                self.assertEqual(search(LOW, HIGH, 7, 5, answers), [HIGH, 0] + askings(7, 5, middles))

    def test_the_whole_range_none_0(self):
        middles = [2**k - 1 - 2**63 for k in range(63, -1, -1)]
        for answer in (1, -1, HIGH, LOW):
            with self.subTest(answer=answer):
                self.assertEqual(search(LOW, HIGH, 7, 5, [answer] * 64), [LOW, 0] + askings(7, 5, middles))

    def test_the_whole_range_by_turns(self):
        for turn in ([0, 1], [1, 0], [1, 1, 0], [0, 0, 0, 1]):
            with self.subTest(turn=turn):
                answers = turn * 64
                low, high, middles = halves_to_the_end(answers)
                self.assertEqual(low, high)
                self.assertEqual(search(LOW, HIGH, 7, 5, answers), [low, 0] + askings(7, 5, middles))

    def test_every_way_through_short_stretches(self):
        for lo in range(-5, 3):
            for hi in range(lo, lo + 7):
                # A function that is 0 below the place and 1 from it on leads to that place.
                for place in range(lo, hi + 1):
                    self.check_place(lo, hi, place)

    def check_place(self, lo, hi, place):
        answers, middles, low, high = [], [], lo, hi
        while low != high:
            middle = max(m for m in range(low, high) if m - low <= high - m)
            middles.append(middle)
            answers.append(int(middle >= place))
            low, high = (low, middle) if middle >= place else (middle + 1, high)
        self.assertEqual(search(lo, hi, 7, 5, answers), [place, 0] + askings(7, 5, middles))


if __name__ == "__main__":
    unittest.main()
