import unittest

from handedover.rows import once
from support import ANSWERS_MOST, C_MOST, FUNCTION_MOST, HIGH, LOW, ROW_MOST, askings, check_long, numbers


class Once(unittest.TestCase):
    def test_keeps_the_first_and_those_of_which_the_answer_is_0(self):
        self.assertEqual(
            once(7, 5, [10, 20, 30, 40], [0, 1, 0]),
            [3, 3, 10, 20, 40, 12, 7, 5, 10, 20, 7, 5, 20, 30, 7, 5, 20, 40],
        )

    def test_asks_about_the_one_kept_last_not_about_the_neighbour(self):
        self.assertEqual(
            once(7, 5, [10, 20, 30, 40, 50], [1, 1, 0, 1]),
            [2, 2, 10, 40, 16, 7, 5, 10, 20, 7, 5, 10, 30, 7, 5, 10, 40, 7, 5, 40, 50],
        )

    def test_anything_but_0_leaves_a_number_out(self):
        a = [10, 20, 30, 40, 50, 60, 70, 80]
        self.assertEqual(
            once(7, 5, a, [1, -1, 2, HIGH, LOW, 2**32, 0]),
            [2, 2, 10, 80] + askings(7, 5, [10] * 7, a[1:]),
        )

    def test_all_kept(self):
        self.assertEqual(once(7, 5, [3, 1, 2], [0, 0]), [3, 3, 3, 1, 2, 8, 7, 5, 3, 1, 7, 5, 1, 2])

    def test_only_the_first_kept(self):
        self.assertEqual(once(7, 5, [3, 1, 2], [1, 1]), [1, 1, 3, 8, 7, 5, 3, 1, 7, 5, 3, 2])

    def test_the_answers_decide_not_the_numbers(self):
        self.assertEqual(once(1, 2, [4, 4, 4], [0, 1]), [2, 2, 4, 4, 8, 1, 2, 4, 4, 1, 2, 4, 4])
        self.assertEqual(once(1, 2, [4, 5, 4], [1, 0]), [2, 2, 4, 4, 8, 1, 2, 4, 5, 1, 2, 4, 4])

    def test_numbers_0_are_kept_like_others(self):
        self.assertEqual(once(7, 5, [0, 0, 1], [0, 0]), [3, 3, 0, 0, 1, 8, 7, 5, 0, 0, 7, 5, 0, 1])

    def test_empty_row_asks_nothing_and_tells_nothing(self):
        self.assertEqual(once(7, 5, [], []), [0, 0, 0])
        self.assertEqual(once(7, 5, [], [0, 1]), [0, 0, 0])

    def test_row_of_one_number_is_kept_without_asking(self):
        self.assertEqual(once(7, 5, [-1], []), [1, 1, -1, 0])
        self.assertEqual(once(7, 5, [-1], [100]), [1, 1, -1, 0])

    def test_row_of_two_numbers(self):
        self.assertEqual(once(7, 5, [-1, 8], [0]), [2, 2, -1, 8, 4, 7, 5, -1, 8])
        self.assertEqual(once(7, 5, [-1, 8], [1]), [1, 1, -1, 4, 7, 5, -1, 8])

    def test_no_answers(self):
        self.assertEqual(once(7, 5, [1, 1], []), [2, 2, 1, 1, 4, 7, 5, 1, 1])
        self.assertEqual(once(7, 5, [3, 2, 1], []), [3, 3, 3, 2, 1, 8, 7, 5, 3, 2, 7, 5, 2, 1])

    def test_fewer_answers_than_are_asked_for(self):
        self.assertEqual(
            once(7, 5, [1, 2, 3, 4], [6]),
            [3, 3, 1, 3, 4, 12, 7, 5, 1, 2, 7, 5, 1, 3, 7, 5, 3, 4],
        )
        self.assertEqual(once(7, 5, [1, 2, 3], [6]), [2, 2, 1, 3, 8, 7, 5, 1, 2, 7, 5, 1, 3])

    def test_more_answers_than_are_asked_for(self):
        self.assertEqual(once(7, 5, [1, 2, 3], [0, 1, 0, 1]), [2, 2, 1, 2, 8, 7, 5, 1, 2, 7, 5, 2, 3])

    def test_the_ends_of_the_ranges(self):
        self.assertEqual(
            once(FUNCTION_MOST, C_MOST, [LOW, HIGH, LOW, HIGH], [LOW, 0, HIGH]),
            [2, 2, LOW, LOW] + askings(FUNCTION_MOST, C_MOST, [LOW, LOW, LOW], [HIGH, LOW, HIGH]),
        )
        self.assertEqual(
            once(0, 0, [HIGH, LOW, HIGH], [0, 0]),
            [3, 3, HIGH, LOW, HIGH, 8, 0, 0, HIGH, LOW, 0, 0, LOW, HIGH],
        )

    def test_the_longest_row_and_the_most_answers(self):
        a = numbers(ROW_MOST, 3)
        # The first answer is of the second number: by these every other number is kept, from the first on.
        answers = [1, 0] * (ANSWERS_MOST // 2)
        kept = a[::2]
        last_kept = [x for x in kept for turn in range(2)][:ROW_MOST - 1]
        check_long(
            self,
            once(7, 5, a, answers),
            [len(kept), len(kept)] + kept + askings(7, 5, last_kept, a[1:]),
        )
        check_long(
            self,
            once(7, 5, a, [-1] * ANSWERS_MOST),
            [1, 1, a[0]] + askings(7, 5, [a[0]] * (ROW_MOST - 1), a[1:]),
        )

    def test_the_longest_row_without_answers_and_with_one_too_few(self):
        a = numbers(ROW_MOST, HIGH // ROW_MOST)
        check_long(self, once(7, 5, a, []), [ROW_MOST, ROW_MOST] + a + askings(7, 5, a[:-1], a[1:]))
        check_long(
            self,
            once(7, 5, a, [1] * (ROW_MOST - 2)),
            [2, 2, a[0], a[-1]] + askings(7, 5, [a[0]] * (ROW_MOST - 1), a[1:]),
        )


if __name__ == "__main__":
    unittest.main()
