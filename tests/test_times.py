import unittest

from handedover.rows import times
from support import ANSWERS_MOST, C_MOST, FUNCTION_MOST, HIGH, LOW, askings, check_long, numbers

K_MOST = 65536


class Times(unittest.TestCase):
    def test_asks_g_of_what_the_number_is_k_times(self):
        self.assertEqual(
            times(10, 3, 7, 5, [20, 30, 40]),
            [40, 0, 12, 7, 5, 10, 0, 7, 5, 20, 0, 7, 5, 30, 0],
        )

    def test_k_0_asks_nothing(self):
        self.assertEqual(times(10, 0, 7, 5, []), [10, 0, 0])
        self.assertEqual(times(-10, 0, 7, 5, [20, 30]), [-10, 0, 0])

    def test_k_1(self):
        self.assertEqual(times(10, 1, 7, 5, [20, 30]), [20, 0, 4, 7, 5, 10, 0])
        self.assertEqual(times(10, 1, 7, 5, [10, 30]), [10, 0, 4, 7, 5, 10, 0])

    def test_an_end_where_it_comes_out_as_it_went_in_at_once(self):
        self.assertEqual(times(10, 5, 7, 5, [10, 20, 30]), [10, 0, 4, 7, 5, 10, 0])

    def test_an_end_where_it_comes_out_as_it_went_in_later(self):
        self.assertEqual(
            times(10, 5, 7, 5, [20, 30, 30, 40, 50]),
            [30, 0, 12, 7, 5, 10, 0, 7, 5, 20, 0, 7, 5, 30, 0],
        )

    def test_an_end_where_it_comes_out_as_it_went_in_the_last_time(self):
        self.assertEqual(times(10, 2, 7, 5, [20, 20, 30]), [20, 0, 8, 7, 5, 10, 0, 7, 5, 20, 0])

    def test_an_end_by_k_with_more_answers(self):
        self.assertEqual(times(10, 2, 7, 5, [20, 30, 40]), [30, 0, 8, 7, 5, 10, 0, 7, 5, 20, 0])

    def test_a_number_that_comes_back_later_but_not_at_once_is_no_end(self):
        self.assertEqual(
            times(10, 4, 7, 5, [20, 10, 20, 10]),
            [10, 0] + askings(7, 5, [10, 20, 10, 20]),
        )
        self.assertEqual(times(10, 4, 7, 5, [20, 30, 10, 40]), [40, 0] + askings(7, 5, [10, 20, 30, 10]))

    def test_0_is_a_number_like_others(self):
        self.assertEqual(times(0, 5, 7, 5, [0, 1]), [0, 0, 4, 7, 5, 0, 0])
        self.assertEqual(times(10, 3, 7, 5, [0, 20, 30]), [30, 0] + askings(7, 5, [10, 0, 20]))

    def test_no_answers(self):
        self.assertEqual(times(10, 1, 7, 5, []), [0, 0, 4, 7, 5, 10, 0])
        self.assertEqual(times(10, 5, 7, 5, []), [0, 0, 8, 7, 5, 10, 0, 7, 5, 0, 0])
        self.assertEqual(times(0, 5, 7, 5, []), [0, 0, 4, 7, 5, 0, 0])

    def test_fewer_answers_than_are_asked_for(self):
        self.assertEqual(
            times(10, 9, 7, 5, [20, 30]),
            [0, 0, 16, 7, 5, 10, 0, 7, 5, 20, 0, 7, 5, 30, 0, 7, 5, 0, 0],
        )
        self.assertEqual(times(10, 9, 7, 5, [20, 0]), [0, 0, 12, 7, 5, 10, 0, 7, 5, 20, 0, 7, 5, 0, 0])

    def test_the_ends_of_the_ranges(self):
        self.assertEqual(
            times(LOW, 3, FUNCTION_MOST, C_MOST, [HIGH, LOW, HIGH]),
            [HIGH, 0] + askings(FUNCTION_MOST, C_MOST, [LOW, HIGH, LOW]),
        )
        self.assertEqual(times(HIGH, 3, 0, 0, [LOW, LOW, 1]), [LOW, 0, 8, 0, 0, HIGH, 0, 0, 0, LOW, 0])
        self.assertEqual(times(LOW, 3, 0, 0, [LOW]), [LOW, 0, 4, 0, 0, LOW, 0])
        self.assertEqual(times(HIGH, 3, 0, 0, [HIGH]), [HIGH, 0, 4, 0, 0, HIGH, 0])

    def test_k_65536_with_answers_that_run_out(self):
        answers = numbers(ANSWERS_MOST, 11)[::-1]
        # The first 0 behind the answers is a change yet, the second one isn't.
        check_long(
            self,
            times(HIGH, K_MOST, 7, 5, answers),
            [0, 0] + askings(7, 5, [HIGH] + answers + [0]),
        )

    def test_k_65536_with_last_answer_0(self):
        answers = [1, 0] * (ANSWERS_MOST // 2)
        check_long(
            self,
            times(10, K_MOST, 7, 5, answers),
            [0, 0] + askings(7, 5, [10] + answers),
        )

    def test_k_65536_with_as_many_answers(self):
        # The document's words allow as many answers, though its interface hands in fewer.
        answers = [k + 1 for k in range(K_MOST)]
        check_long(
            self,
            times(0, K_MOST, 7, 5, answers),
            [K_MOST, 0] + askings(7, 5, [0] + answers[:-1]),
        )

    def test_k_65536_without_answers(self):
        self.assertEqual(times(10, K_MOST, 7, 5, []), [0, 0, 8, 7, 5, 10, 0, 7, 5, 0, 0])


if __name__ == "__main__":
    unittest.main()
