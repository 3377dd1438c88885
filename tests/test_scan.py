import unittest

from handedover.rows import scan
from support import ANSWERS_MOST, C_MOST, FUNCTION_MOST, HIGH, LOW, ROW_MOST, askings, check_long, numbers


class Scan(unittest.TestCase):
    def test_goes_from_the_front_on_and_tells_r_after_each(self):
        self.assertEqual(
            scan(7, 5, 10, [1, 2, 3], [100, 200, 300]),
            [3, 3, 100, 200, 300, 12, 7, 5, 10, 1, 7, 5, 100, 2, 7, 5, 200, 3],
        )

    def test_answers_needn_t_be_what_any_one_function_would_say(self):
        self.assertEqual(
            scan(1, 2, 3, [4, 4, 4], [-9, 3, 4]),
            [3, 3, -9, 3, 4, 12, 1, 2, 3, 4, 1, 2, -9, 4, 1, 2, 3, 4],
        )

    def test_empty_row_asks_nothing_and_tells_nothing(self):
        self.assertEqual(scan(7, 5, 10, [], []), [0, 0, 0])
        self.assertEqual(scan(7, 5, -10, [], [100, 200]), [0, 0, 0])

    def test_row_of_one_number(self):
        self.assertEqual(scan(7, 5, 10, [-1], [100]), [1, 1, 100, 4, 7, 5, 10, -1])

    def test_no_answers(self):
        self.assertEqual(scan(7, 5, 10, [1], []), [1, 1, 0, 4, 7, 5, 10, 1])
        self.assertEqual(
            scan(7, 5, 10, [1, 2, 3], []),
            [3, 3, 0, 0, 0, 12, 7, 5, 10, 1, 7, 5, 0, 2, 7, 5, 0, 3],
        )

    def test_fewer_answers_than_are_asked_for(self):
        self.assertEqual(
            scan(7, 5, 10, [1, 2, 3, 4], [100, 200]),
            [4, 4, 100, 200, 0, 0, 16, 7, 5, 10, 1, 7, 5, 100, 2, 7, 5, 200, 3, 7, 5, 0, 4],
        )

    def test_one_answer_fewer_than_is_asked_for(self):
        self.assertEqual(scan(7, 5, 10, [1, 2], [100]), [2, 2, 100, 0, 8, 7, 5, 10, 1, 7, 5, 100, 2])

    def test_more_answers_than_are_asked_for(self):
        self.assertEqual(
            scan(7, 5, 10, [1, 2], [100, 200, 300]),
            [2, 2, 100, 200, 8, 7, 5, 10, 1, 7, 5, 100, 2],
        )

    def test_an_answer_of_0_is_an_answer_like_others(self):
        self.assertEqual(
            scan(7, 5, 10, [1, 2, 3], [0, 200, 300]),
            [3, 3, 0, 200, 300, 12, 7, 5, 10, 1, 7, 5, 0, 2, 7, 5, 200, 3],
        )

    def test_the_ends_of_the_ranges(self):
        self.assertEqual(
            scan(FUNCTION_MOST, C_MOST, LOW, [HIGH, LOW], [HIGH, LOW]),
            [2, 2, HIGH, LOW, 8, FUNCTION_MOST, C_MOST, LOW, HIGH, FUNCTION_MOST, C_MOST, HIGH, LOW],
        )
        self.assertEqual(
            scan(0, 0, HIGH, [LOW, HIGH], [LOW, HIGH]),
            [2, 2, LOW, HIGH, 8, 0, 0, HIGH, LOW, 0, 0, LOW, HIGH],
        )
        self.assertEqual(scan(0, C_MOST, LOW, [], []), [0, 0, 0])
        self.assertEqual(scan(FUNCTION_MOST, 0, HIGH, [], []), [0, 0, 0])

    def test_the_longest_row_and_the_most_answers(self):
        a = numbers(ROW_MOST, 3)
        answers = numbers(ANSWERS_MOST, 11)
        told = answers[:ROW_MOST]
        before = [10] + told[:-1]
        check_long(
            self,
            scan(7, 5, 10, a, answers),
            [ROW_MOST, ROW_MOST] + told + askings(7, 5, before, a),
        )

    def test_the_longest_row_without_answers_and_with_one_too_few(self):
        a = numbers(ROW_MOST, HIGH // ROW_MOST)
        zeros = [0] * ROW_MOST
        head = [ROW_MOST, ROW_MOST]
        check_long(self, scan(7, 5, 10, a, []), head + zeros + askings(7, 5, [10] + zeros[1:], a))
        answers = numbers(ROW_MOST - 1, 11)
        check_long(
            self,
            scan(7, 5, 10, a, answers),
            head + answers + [0] + askings(7, 5, [10] + answers, a),
        )


if __name__ == "__main__":
    unittest.main()
