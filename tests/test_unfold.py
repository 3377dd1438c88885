import unittest

from handedover.rows import unfold
from support import ANSWERS_MOST, C_MOST, FUNCTION_MOST, HIGH, LOW, askings, check_long, numbers

MOST = 4096


def by_turns(ones, others):
    """One of each by turns, from the first on; the first may have one more."""
    mixed = []
    for k, one in enumerate(ones):
        mixed.append(one)
        mixed += others[k:k + 1]
    return mixed


def askings_by_turns(p, g, c, values):
    """What was asked, with how many numbers it has ahead of it: p and g by turns of each value, the last by p alone."""
    flat = []
    for value in values:
        flat += [p, c, value, 0, g, c, value, 0]
    flat = flat[:-4]
    return [len(flat)] + flat


class Unfold(unittest.TestCase):
    def test_asks_p_and_g_of_the_value_by_turns_until_p_is_0(self):
        self.assertEqual(
            unfold(10, 7, 6, 5, 100, [1, 20, 1, 30, 0]),
            [2, 2, 10, 20, 20, 6, 5, 10, 0, 7, 5, 10, 0, 6, 5, 20, 0, 7, 5, 20, 0, 6, 5, 30, 0],
        )

    def test_an_end_by_p_at_once(self):
        self.assertEqual(unfold(10, 7, 6, 5, 100, [0, 20, 1]), [0, 0, 4, 6, 5, 10, 0])

    def test_an_end_by_p_after_one(self):
        self.assertEqual(
            unfold(10, 7, 6, 5, 100, [1, 20, 0, 1, 1]),
            [1, 1, 10, 12, 6, 5, 10, 0, 7, 5, 10, 0, 6, 5, 20, 0],
        )

    def test_an_end_by_most_without_asking_g_behind_the_last_one(self):
        self.assertEqual(
            unfold(10, 7, 6, 5, 3, [1, 20, 1, 30, 1, 40, 1, 50]),
            [3, 3, 10, 20, 30] + askings_by_turns(6, 7, 5, [10, 20, 30]),
        )
        self.assertEqual(
            unfold(10, 7, 6, 5, 2, [1, 20, 1, 30, 1]),
            [2, 2, 10, 20, 12, 6, 5, 10, 0, 7, 5, 10, 0, 6, 5, 20, 0],
        )

    def test_an_end_by_p_where_one_more_would_be_most(self):
        self.assertEqual(
            unfold(10, 7, 6, 5, 2, [1, 20, 0]),
            [1, 1, 10, 12, 6, 5, 10, 0, 7, 5, 10, 0, 6, 5, 20, 0],
        )

    def test_most_0_asks_nothing(self):
        self.assertEqual(unfold(10, 7, 6, 5, 0, [1, 20, 1]), [0, 0, 0])
        self.assertEqual(unfold(10, 7, 6, 5, 0, []), [0, 0, 0])

    def test_most_1_asks_p_once_and_g_never(self):
        self.assertEqual(unfold(10, 7, 6, 5, 1, [1, 20, 1]), [1, 1, 10, 4, 6, 5, 10, 0])
        self.assertEqual(unfold(10, 7, 6, 5, 1, [0, 20, 1]), [0, 0, 4, 6, 5, 10, 0])

    def test_whatever_isn_t_0_tells_the_value(self):
        answers = [1, 20, -1, 30, 2, 40, HIGH, 50, LOW, 60, 2**32, 70, 0]
        self.assertEqual(
            unfold(10, 7, 6, 5, 100, answers),
            [6, 6, 10, 20, 30, 40, 50, 60] + askings_by_turns(6, 7, 5, [10, 20, 30, 40, 50, 60, 70]),
        )

    def test_a_value_0_or_the_same_again_is_no_end(self):
        self.assertEqual(
            unfold(0, 7, 6, 5, 4, [1, 0, 1, 0, 1, 9, 0]),
            [3, 3, 0, 0, 0] + askings_by_turns(6, 7, 5, [0, 0, 0, 9]),
        )

    def test_the_same_function_for_both(self):
        self.assertEqual(
            unfold(10, 3, 3, 5, 2, [1, 20, 1]),
            [2, 2, 10, 20, 12, 3, 5, 10, 0, 3, 5, 10, 0, 3, 5, 20, 0],
        )

    def test_no_answers(self):
        self.assertEqual(unfold(10, 7, 6, 5, 100, []), [0, 0, 4, 6, 5, 10, 0])

    def test_answers_that_end_behind_p(self):
        self.assertEqual(
            unfold(10, 7, 6, 5, 100, [1]),
            [1, 1, 10, 12, 6, 5, 10, 0, 7, 5, 10, 0, 6, 5, 0, 0],
        )

    def test_answers_that_end_behind_g(self):
        self.assertEqual(
            unfold(10, 7, 6, 5, 100, [1, 20]),
            [1, 1, 10, 12, 6, 5, 10, 0, 7, 5, 10, 0, 6, 5, 20, 0],
        )

    def test_the_ends_of_the_ranges(self):
        self.assertEqual(
            unfold(LOW, FUNCTION_MOST, 0, C_MOST, 2, [LOW, HIGH, HIGH]),
            [2, 2, LOW, HIGH] + askings_by_turns(0, FUNCTION_MOST, C_MOST, [LOW, HIGH]),
        )
        self.assertEqual(
            unfold(HIGH, 0, FUNCTION_MOST, 0, 2, [HIGH, LOW, 0]),
            [1, 1, HIGH] + askings_by_turns(FUNCTION_MOST, 0, 0, [HIGH, LOW]),
        )
        self.assertEqual(unfold(LOW, 0, 0, 0, 1, [LOW]), [1, 1, LOW, 4, 0, 0, LOW, 0])

    def test_most_4096(self):
        values = numbers(MOST + 1, 3)
        # Enough answers to go on behind the last one, if that weren't the most.
        answers = by_turns([1] * (ANSWERS_MOST // 2), values[1:] + [5] * (ANSWERS_MOST // 2 - MOST))
        self.assertEqual(len(answers), ANSWERS_MOST)
        check_long(
            self,
            unfold(values[0], 7, 6, 5, MOST, answers),
            [MOST, MOST] + values[:-1] + askings_by_turns(6, 7, 5, values[:-1]),
        )

    def test_most_4096_with_one_answer_too_few(self):
        values = numbers(MOST, HIGH // MOST)
        answers = by_turns([1] * (MOST - 1), values[1:])
        self.assertEqual(len(answers), 2 * MOST - 2)
        check_long(
            self,
            unfold(values[0], 7, 6, 5, MOST, answers),
            [MOST - 1, MOST - 1] + values[:-1] + askings_by_turns(6, 7, 5, values),
        )

    def test_most_4096_without_answers(self):
        self.assertEqual(unfold(10, 7, 6, 5, MOST, []), [0, 0] + askings(6, 5, [10]))


if __name__ == "__main__":
    unittest.main()
