import unittest

from handedover.rows import back
from support import ANSWERS_MOST, C_MOST, FUNCTION_MOST, HIGH, LOW, ROW_MOST, askings, check_long, numbers


class Back(unittest.TestCase):
    def test_goes_from_the_end_on_with_x_ahead_of_r(self):
        self.assertEqual(
            back(7, 5, 10, [1, 2, 3], [100, 200, 300]),
            [300, 0, 12, 7, 5, 3, 10, 7, 5, 2, 100, 7, 5, 1, 200],
        )

    def test_answers_needn_t_be_what_any_one_function_would_say(self):
        self.assertEqual(
            back(1, 2, 3, [4, 4, 4], [-9, 3, 4]),
            [4, 0, 12, 1, 2, 4, 3, 1, 2, 4, -9, 1, 2, 4, 3],
        )

    def test_empty_row_asks_nothing(self):
        self.assertEqual(back(7, 5, 10, [], []), [10, 0, 0])
        self.assertEqual(back(7, 5, -10, [], [100, 200]), [-10, 0, 0])

    def test_row_of_one_number(self):
        self.assertEqual(back(7, 5, 10, [-1], [100]), [100, 0, 4, 7, 5, -1, 10])

    def test_no_answers(self):
        self.assertEqual(back(7, 5, 10, [1], []), [0, 0, 4, 7, 5, 1, 10])
        self.assertEqual(
            back(7, 5, 10, [1, 2, 3], []),
            [0, 0, 12, 7, 5, 3, 10, 7, 5, 2, 0, 7, 5, 1, 0],
        )

    def test_fewer_answers_than_are_asked_for(self):
        self.assertEqual(
            back(7, 5, 10, [1, 2, 3, 4], [100, 200]),
            [0, 0, 16, 7, 5, 4, 10, 7, 5, 3, 100, 7, 5, 2, 200, 7, 5, 1, 0],
        )

    def test_one_answer_fewer_than_is_asked_for(self):
        self.assertEqual(back(7, 5, 10, [1, 2], [100]), [0, 0, 8, 7, 5, 2, 10, 7, 5, 1, 100])

    def test_more_answers_than_are_asked_for(self):
        self.assertEqual(back(7, 5, 10, [1, 2], [100, 200, 300]), [200, 0, 8, 7, 5, 2, 10, 7, 5, 1, 100])

    def test_an_answer_of_0_is_an_answer_like_others(self):
        self.assertEqual(
            back(7, 5, 10, [1, 2, 3], [0, 200, 300]),
            [300, 0, 12, 7, 5, 3, 10, 7, 5, 2, 0, 7, 5, 1, 200],
        )

    def test_the_ends_of_the_ranges(self):
        self.assertEqual(
            back(FUNCTION_MOST, C_MOST, LOW, [LOW, HIGH], [HIGH, LOW]),
            [LOW, 0, 8, FUNCTION_MOST, C_MOST, HIGH, LOW, FUNCTION_MOST, C_MOST, LOW, HIGH],
        )
        self.assertEqual(
            back(0, 0, HIGH, [HIGH, LOW], [LOW, HIGH]),
            [HIGH, 0, 8, 0, 0, LOW, HIGH, 0, 0, HIGH, LOW],
        )
        self.assertEqual(back(0, C_MOST, LOW, [], []), [LOW, 0, 0])
        self.assertEqual(back(FUNCTION_MOST, 0, HIGH, [], []), [HIGH, 0, 0])

    def test_the_longest_row_and_the_most_answers(self):
        a = numbers(ROW_MOST, 3)
        answers = numbers(ANSWERS_MOST, 11)
        before = [10] + answers[:ROW_MOST - 1]
        check_long(
            self,
            back(7, 5, 10, a, answers),
            [answers[ROW_MOST - 1], 0] + askings(7, 5, a[::-1], before),
        )

    def test_the_longest_row_without_answers_and_with_one_too_few(self):
        a = numbers(ROW_MOST, HIGH // ROW_MOST)
        zeros = [0] * (ROW_MOST - 1)
        check_long(self, back(7, 5, 10, a, []), [0, 0] + askings(7, 5, a[::-1], [10] + zeros))
        answers = numbers(ROW_MOST - 1, 11)
        check_long(self, back(7, 5, 10, a, answers), [0, 0] + askings(7, 5, a[::-1], [10] + answers))


if __name__ == "__main__":
    unittest.main()
