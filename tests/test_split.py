import unittest

from handedover.rows import split
from support import ANSWERS_MOST, C_MOST, FUNCTION_MOST, HIGH, LOW, ROW_MOST, askings, check_long, numbers


class Split(unittest.TestCase):
    def test_asks_each_number_once_from_the_front_on_and_tells_both_parts(self):
        self.assertEqual(
            split(7, 5, [10, 20, 30], [0, 1, 0]),
            [1, 3, 20, 10, 30, 12, 7, 5, 10, 0, 7, 5, 20, 0, 7, 5, 30, 0],
        )

    def test_whatever_isn_t_0_puts_a_number_first(self):
        a = [10, 20, 30, 40, 50, 60, 70]
        self.assertEqual(
            split(7, 5, a, [0, 1, -1, 2, HIGH, LOW, 2**32]),
            [6, 7, 20, 30, 40, 50, 60, 70, 10] + askings(7, 5, a),
        )

    def test_all_first(self):
        self.assertEqual(split(7, 5, [3, 1], [1, 1]), [2, 2, 3, 1, 8, 7, 5, 3, 0, 7, 5, 1, 0])

    def test_none_first(self):
        self.assertEqual(split(7, 5, [3, 1], [0, 0]), [0, 2, 3, 1, 8, 7, 5, 3, 0, 7, 5, 1, 0])

    def test_first_and_others_by_turns_each_in_their_order(self):
        a = [6, 3, 4, 5, 2]
        self.assertEqual(split(7, 5, a, [1, 0, 1, 0, 1]), [3, 5, 6, 4, 2, 3, 5] + askings(7, 5, a))
        self.assertEqual(split(7, 5, a, [0, 1, 0, 1, 0]), [2, 5, 3, 5, 6, 4, 2] + askings(7, 5, a))

    def test_equal_numbers_with_different_answers(self):
        a = [4, 4, 9, 4]
        self.assertEqual(split(1, 2, a, [0, 1, 0, 1]), [2, 4, 4, 4, 4, 9] + askings(1, 2, a))
        self.assertEqual(split(1, 2, a, [1, 0, 1, 0]), [2, 4, 4, 9, 4, 4] + askings(1, 2, a))

    def test_a_number_0_is_told_like_others(self):
        self.assertEqual(split(7, 5, [0, 1], [0, 1]), [1, 2, 1, 0, 8, 7, 5, 0, 0, 7, 5, 1, 0])

    def test_empty_row_asks_nothing_and_tells_nothing(self):
        self.assertEqual(split(7, 5, [], []), [0, 0, 0])
        self.assertEqual(split(7, 5, [], [1, 1]), [0, 0, 0])

    def test_row_of_one_number(self):
        self.assertEqual(split(7, 5, [-1], [100]), [1, 1, -1, 4, 7, 5, -1, 0])
        self.assertEqual(split(7, 5, [-1], [0]), [0, 1, -1, 4, 7, 5, -1, 0])

    def test_no_answers(self):
        self.assertEqual(split(7, 5, [1], []), [0, 1, 1, 4, 7, 5, 1, 0])
        self.assertEqual(split(7, 5, [2, 1], []), [0, 2, 2, 1, 8, 7, 5, 2, 0, 7, 5, 1, 0])

    def test_fewer_answers_than_are_asked_for(self):
        a = [1, 2, 3, 4]
        self.assertEqual(split(7, 5, a, [0, 6]), [1, 4, 2, 1, 3, 4] + askings(7, 5, a))
        self.assertEqual(split(7, 5, a, [6, 0, 6]), [2, 4, 1, 3, 2, 4] + askings(7, 5, a))

    def test_more_answers_than_are_asked_for(self):
        self.assertEqual(split(7, 5, [1, 2], [0, 1, 1, 0]), [1, 2, 2, 1, 8, 7, 5, 1, 0, 7, 5, 2, 0])

    def test_the_ends_of_the_ranges(self):
        a = [LOW, HIGH, LOW]
        self.assertEqual(
            split(FUNCTION_MOST, C_MOST, a, [0, LOW, HIGH]),
            [2, 3, HIGH, LOW, LOW] + askings(FUNCTION_MOST, C_MOST, a),
        )
        self.assertEqual(split(0, 0, a, [LOW, 0, HIGH]), [2, 3, LOW, LOW, HIGH] + askings(0, 0, a))

    def test_the_longest_row_and_the_most_answers(self):
        a = numbers(ROW_MOST, 3)
        asked = askings(7, 5, a)
        answers = [k % 3 for k in range(ANSWERS_MOST)]
        first = [x for k, x in enumerate(a) if k % 3 > 0]
        others = a[::3]
        check_long(self, split(7, 5, a, answers), [len(first), ROW_MOST] + first + others + asked)
        check_long(self, split(7, 5, a, [-1] * ANSWERS_MOST), [ROW_MOST, ROW_MOST] + a + asked)

    def test_the_longest_row_without_answers_and_with_one_too_few(self):
        a = numbers(ROW_MOST, HIGH // ROW_MOST)
        asked = askings(7, 5, a)
        check_long(self, split(7, 5, a, []), [0, ROW_MOST] + a + asked)
        answers = [0] + [1] * (ROW_MOST - 2)
        check_long(
            self,
            split(7, 5, a, answers),
            [ROW_MOST - 2, ROW_MOST] + a[1:-1] + [a[0], a[-1]] + asked,
        )


if __name__ == "__main__":
    unittest.main()
