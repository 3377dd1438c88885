import unittest

from handedover.rows import merge
from support import ANSWERS_MOST, C_MOST, FUNCTION_MOST, HIGH, LOW, ROW_MOST, askings, check_long, numbers


class Merge(unittest.TestCase):
    def test_asks_y_of_b_ahead_of_x_of_a_and_takes_one_by_the_answer(self):
        self.assertEqual(
            merge(7, 5, [10, 30], [20, 40], [0, 1, 0]),
            [4, 4, 10, 20, 30, 40, 12, 7, 5, 20, 10, 7, 5, 20, 30, 7, 5, 40, 30],
        )

    def test_the_answers_decide_not_the_numbers(self):
        self.assertEqual(
            merge(7, 5, [10, 30], [20, 40], [1, 0, 1]),
            [4, 4, 20, 10, 40, 30, 12, 7, 5, 20, 10, 7, 5, 40, 10, 7, 5, 40, 30],
        )

    def test_whatever_isn_t_0_takes_y(self):
        b = [1, 2, 3, 4, 5, 6]
        self.assertEqual(
            merge(7, 5, [10], b, [1, -1, 2, HIGH, LOW, 2**32]),
            [7, 7, 1, 2, 3, 4, 5, 6, 10] + askings(7, 5, b, [10] * 6),
        )

    def test_what_is_left_of_a_follows_without_being_asked_of(self):
        self.assertEqual(
            merge(7, 5, [10, 20, 30], [5], [1, 1, 1]),
            [4, 4, 5, 10, 20, 30, 4, 7, 5, 5, 10],
        )
        self.assertEqual(
            merge(7, 5, [10, 20, 30], [5], [0, 1, 1]),
            [4, 4, 10, 5, 20, 30, 8, 7, 5, 5, 10, 7, 5, 5, 20],
        )

    def test_what_is_left_of_b_follows_without_being_asked_of(self):
        self.assertEqual(
            merge(7, 5, [5], [10, 20, 30], [0, 1, 1]),
            [4, 4, 5, 10, 20, 30, 4, 7, 5, 10, 5],
        )
        self.assertEqual(
            merge(7, 5, [5], [10, 20, 30], [1, 0, 1]),
            [4, 4, 10, 5, 20, 30, 8, 7, 5, 10, 5, 7, 5, 20, 5],
        )

    def test_equal_numbers_with_different_answers(self):
        self.assertEqual(
            merge(1, 2, [4, 4], [4, 4], [1, 0, 1]),
            [4, 4, 4, 4, 4, 4, 12, 1, 2, 4, 4, 1, 2, 4, 4, 1, 2, 4, 4],
        )
        self.assertEqual(
            merge(1, 2, [4, 4], [4, 4], [1, 1]),
            [4, 4, 4, 4, 4, 4, 8, 1, 2, 4, 4, 1, 2, 4, 4],
        )

    def test_empty_rows_ask_nothing(self):
        for answers in ([], [0, 1], [1, 0]):
            with self.subTest(answers=answers):
                self.assertEqual(merge(7, 5, [], [3, 1, 2], answers), [3, 3, 3, 1, 2, 0])
                self.assertEqual(merge(7, 5, [3, 1, 2], [], answers), [3, 3, 3, 1, 2, 0])
                self.assertEqual(merge(7, 5, [], [], answers), [0, 0, 0])

    def test_rows_of_one_number(self):
        self.assertEqual(merge(7, 5, [-1], [8], [0]), [2, 2, -1, 8, 4, 7, 5, 8, -1])
        self.assertEqual(merge(7, 5, [-1], [8], [1]), [2, 2, 8, -1, 4, 7, 5, 8, -1])

    def test_rows_of_one_number_and_of_two(self):
        self.assertEqual(merge(7, 5, [1, 2], [3], [0, 0]), [3, 3, 1, 2, 3, 8, 7, 5, 3, 1, 7, 5, 3, 2])
        self.assertEqual(merge(7, 5, [1], [2, 3], [1, 1]), [3, 3, 2, 3, 1, 8, 7, 5, 2, 1, 7, 5, 3, 1])

    def test_no_answers(self):
        self.assertEqual(merge(7, 5, [9, 8], [1, 2], []), [4, 4, 9, 8, 1, 2, 8, 7, 5, 1, 9, 7, 5, 1, 8])

    def test_fewer_answers_than_are_asked_for(self):
        self.assertEqual(
            merge(7, 5, [9, 8], [1, 2], [6]),
            [4, 4, 1, 9, 8, 2, 12, 7, 5, 1, 9, 7, 5, 2, 9, 7, 5, 2, 8],
        )

    def test_more_answers_than_are_asked_for(self):
        self.assertEqual(
            merge(7, 5, [9, 8], [1, 2], [1, 1, 0, 0]),
            [4, 4, 1, 2, 9, 8, 8, 7, 5, 1, 9, 7, 5, 2, 9],
        )

    def test_the_ends_of_the_ranges(self):
        self.assertEqual(
            merge(FUNCTION_MOST, C_MOST, [LOW, HIGH], [HIGH, LOW], [LOW, HIGH]),
            [4, 4, HIGH, LOW, LOW, HIGH] + askings(FUNCTION_MOST, C_MOST, [HIGH, LOW], [LOW, LOW]),
        )
        self.assertEqual(
            merge(0, 0, [LOW, HIGH], [HIGH, LOW], [0, LOW, 0]),
            [4, 4, LOW, HIGH, HIGH, LOW] + askings(0, 0, [HIGH, HIGH, LOW], [LOW, HIGH, HIGH]),
        )

    def test_the_longest_rows_by_turns_with_the_most_answers(self):
        a = numbers(ROW_MOST, 3)
        b = numbers(ROW_MOST, 7)
        told = [z for x, y in zip(a, b) for z in (x, y)]
        # x and y are taken by turns, so each is first for two askings, but for a's first and b's last.
        firsts = [y for y in b for turn in range(2)][:-1]
        seconds = [x for x in a for turn in range(2)][1:]
        check_long(
            self,
            merge(7, 5, a, b, [0, 1] * (ANSWERS_MOST // 2)),
            [2 * ROW_MOST, 2 * ROW_MOST] + told + askings(7, 5, firsts, seconds),
        )

    def test_the_longest_rows_without_answers_and_with_too_few(self):
        a = numbers(ROW_MOST, HIGH // ROW_MOST)
        b = numbers(ROW_MOST, 7)
        head = [2 * ROW_MOST, 2 * ROW_MOST]
        check_long(self, merge(7, 5, a, b, []), head + a + b + askings(7, 5, [b[0]] * ROW_MOST, a))
        check_long(
            self,
            merge(7, 5, a, b, [1] * (ROW_MOST - 1)),
            head + b[:-1] + a + [b[-1]] + askings(
                7, 5, b[:-1] + [b[-1]] * ROW_MOST, [a[0]] * (ROW_MOST - 1) + a
            ),
        )

    def test_the_longest_rows_with_all_of_b_first(self):
        a = numbers(ROW_MOST, 3)
        b = numbers(ROW_MOST, 7)
        check_long(
            self,
            merge(7, 5, a, b, [-1] * ANSWERS_MOST),
            [2 * ROW_MOST, 2 * ROW_MOST] + b + a + askings(7, 5, b, [a[0]] * ROW_MOST),
        )


if __name__ == "__main__":
    unittest.main()
