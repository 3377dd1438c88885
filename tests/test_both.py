import unittest

from handedover.rows import both
from support import ANSWERS_MOST, C_MOST, FUNCTION_MOST, HIGH, LOW, numbers


class Both(unittest.TestCase):
    def test_asks_g_of_x_then_h_of_what_g_answered(self):
        self.assertEqual(both(10, 7, 6, 5, [20, 30]), [30, 0, 8, 7, 5, 10, 0, 6, 5, 20, 0])

    def test_minus_1_for_g_alone(self):
        self.assertEqual(both(10, -1, 6, 5, [20, 30]), [20, 0, 4, 6, 5, 10, 0])

    def test_minus_1_for_h_alone(self):
        self.assertEqual(both(10, 7, -1, 5, [20, 30]), [20, 0, 4, 7, 5, 10, 0])

    def test_minus_1_for_both_asks_nothing(self):
        self.assertEqual(both(10, -1, -1, 5, [20, 30]), [10, 0, 0])
        self.assertEqual(both(-10, -1, -1, 5, []), [-10, 0, 0])

    def test_0_is_a_function_like_any_other(self):
        self.assertEqual(both(10, 0, 6, 5, [20, 30]), [30, 0, 8, 0, 5, 10, 0, 6, 5, 20, 0])
        self.assertEqual(both(10, 7, 0, 5, [20, 30]), [30, 0, 8, 7, 5, 10, 0, 0, 5, 20, 0])
        self.assertEqual(both(10, 0, 0, 5, [20, 30]), [30, 0, 8, 0, 5, 10, 0, 0, 5, 20, 0])
        self.assertEqual(both(10, 0, -1, 5, [20, 30]), [20, 0, 4, 0, 5, 10, 0])
        self.assertEqual(both(10, -1, 0, 5, [20, 30]), [20, 0, 4, 0, 5, 10, 0])

    def test_the_same_function_for_both(self):
        self.assertEqual(both(10, 7, 7, 5, [20, 30]), [30, 0, 8, 7, 5, 10, 0, 7, 5, 20, 0])

    def test_h_is_asked_where_g_leaves_the_number_as_it_is(self):
        self.assertEqual(both(10, 7, 6, 5, [10, 10]), [10, 0, 8, 7, 5, 10, 0, 6, 5, 10, 0])
        self.assertEqual(both(10, 7, 6, 5, [0, 30]), [30, 0, 8, 7, 5, 10, 0, 6, 5, 0, 0])

    def test_an_answer_of_minus_1_is_a_number_like_others(self):
        self.assertEqual(both(-1, 7, 6, 5, [-1, -1]), [-1, 0, 8, 7, 5, -1, 0, 6, 5, -1, 0])

    def test_no_answers(self):
        self.assertEqual(both(10, 7, 6, 5, []), [0, 0, 8, 7, 5, 10, 0, 6, 5, 0, 0])
        self.assertEqual(both(10, -1, 6, 5, []), [0, 0, 4, 6, 5, 10, 0])
        self.assertEqual(both(10, 7, -1, 5, []), [0, 0, 4, 7, 5, 10, 0])

    def test_fewer_answers_than_are_asked_for(self):
        self.assertEqual(both(10, 7, 6, 5, [20]), [0, 0, 8, 7, 5, 10, 0, 6, 5, 20, 0])

    def test_more_answers_than_are_asked_for(self):
        self.assertEqual(both(10, 7, 6, 5, [20, 30, 40]), [30, 0, 8, 7, 5, 10, 0, 6, 5, 20, 0])
        answers = numbers(ANSWERS_MOST, 11)
        self.assertEqual(both(10, 7, 6, 5, answers), [answers[1], 0, 8, 7, 5, 10, 0, 6, 5, answers[0], 0])

    def test_the_ends_of_the_ranges(self):
        self.assertEqual(
            both(LOW, FUNCTION_MOST, 0, C_MOST, [HIGH, LOW]),
            [LOW, 0, 8, FUNCTION_MOST, C_MOST, LOW, 0, 0, C_MOST, HIGH, 0],
        )
        self.assertEqual(
            both(HIGH, 0, FUNCTION_MOST, 0, [LOW, HIGH]),
            [HIGH, 0, 8, 0, 0, HIGH, 0, FUNCTION_MOST, 0, LOW, 0],
        )
        self.assertEqual(both(LOW, -1, -1, C_MOST, []), [LOW, 0, 0])
        self.assertEqual(both(HIGH, -1, -1, 0, []), [HIGH, 0, 0])


if __name__ == "__main__":
    unittest.main()
