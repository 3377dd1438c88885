import unittest

from handedover.rows import map_row
from support import ANSWERS_MOST, C_MOST, FUNCTION_MOST, HIGH, LOW, ROW_MOST, askings, check_long, numbers


class MapRow(unittest.TestCase):
    def test_asks_each_number_once_from_the_front_on_and_tells_the_answers(self):
        self.assertEqual(
            map_row(7, 5, [1, 2, 3], [100, 200, 300]),
            [3, 3, 100, 200, 300, 12, 7, 5, 1, 0, 7, 5, 2, 0, 7, 5, 3, 0],
        )

    def test_equal_numbers_with_different_answers(self):
        self.assertEqual(
            map_row(1, 2, [4, 4, 4], [-9, 0, 4]),
            [3, 3, -9, 0, 4, 12, 1, 2, 4, 0, 1, 2, 4, 0, 1, 2, 4, 0],
        )

    def test_minus_1_tells_the_row_itself_and_asks_nothing(self):
        self.assertEqual(map_row(-1, 5, [3, -1, 0, 2], [100, 200, 300, 400]), [4, 4, 3, -1, 0, 2, 0])
        self.assertEqual(map_row(-1, 5, [3, -1, 0, 2], []), [4, 4, 3, -1, 0, 2, 0])
        self.assertEqual(map_row(-1, 5, [], [100]), [0, 0, 0])

    def test_0_is_a_function_like_any_other(self):
        self.assertEqual(map_row(0, 5, [1, 2], [100, 200]), [2, 2, 100, 200, 8, 0, 5, 1, 0, 0, 5, 2, 0])

    def test_1_is_a_function_like_any_other(self):
        self.assertEqual(map_row(1, 5, [1, 2], [100, 200]), [2, 2, 100, 200, 8, 1, 5, 1, 0, 1, 5, 2, 0])

    def test_empty_row_asks_nothing_and_tells_nothing(self):
        self.assertEqual(map_row(7, 5, [], []), [0, 0, 0])
        self.assertEqual(map_row(7, 5, [], [100, 200]), [0, 0, 0])

    def test_row_of_one_number(self):
        self.assertEqual(map_row(7, 5, [-1], [100]), [1, 1, 100, 4, 7, 5, -1, 0])
        self.assertEqual(map_row(-1, 5, [-1], [100]), [1, 1, -1, 0])

    def test_no_answers(self):
        self.assertEqual(map_row(7, 5, [1], []), [1, 1, 0, 4, 7, 5, 1, 0])
        self.assertEqual(map_row(7, 5, [1, 2], []), [2, 2, 0, 0, 8, 7, 5, 1, 0, 7, 5, 2, 0])

    def test_fewer_answers_than_are_asked_for(self):
        self.assertEqual(
            map_row(7, 5, [1, 2, 3, 4], [100, 200]),
            [4, 4, 100, 200, 0, 0, 16, 7, 5, 1, 0, 7, 5, 2, 0, 7, 5, 3, 0, 7, 5, 4, 0],
        )
        self.assertEqual(map_row(7, 5, [1, 2], [100]), [2, 2, 100, 0, 8, 7, 5, 1, 0, 7, 5, 2, 0])

    def test_more_answers_than_are_asked_for(self):
        self.assertEqual(map_row(7, 5, [1, 2], [100, 200, 300]), [2, 2, 100, 200, 8, 7, 5, 1, 0, 7, 5, 2, 0])

    def test_the_ends_of_the_ranges(self):
        self.assertEqual(
            map_row(FUNCTION_MOST, C_MOST, [LOW, HIGH], [HIGH, LOW]),
            [2, 2, HIGH, LOW, 8, FUNCTION_MOST, C_MOST, LOW, 0, FUNCTION_MOST, C_MOST, HIGH, 0],
        )
        self.assertEqual(map_row(0, 0, [HIGH, LOW], [LOW, HIGH]), [2, 2, LOW, HIGH, 8, 0, 0, HIGH, 0, 0, 0, LOW, 0])
        self.assertEqual(map_row(-1, C_MOST, [LOW, HIGH], [HIGH, LOW]), [2, 2, LOW, HIGH, 0])
        self.assertEqual(map_row(-1, 0, [HIGH, LOW], []), [2, 2, HIGH, LOW, 0])

    def test_the_longest_row_and_the_most_answers(self):
        a = numbers(ROW_MOST, 3)
        answers = numbers(ANSWERS_MOST, 11)
        head = [ROW_MOST, ROW_MOST]
        check_long(self, map_row(7, 5, a, answers), head + answers[:ROW_MOST] + askings(7, 5, a))
        check_long(self, map_row(-1, 5, a, answers), head + a + [0])

    def test_the_longest_row_without_answers_and_with_one_too_few(self):
        a = numbers(ROW_MOST, HIGH // ROW_MOST)
        head = [ROW_MOST, ROW_MOST]
        check_long(self, map_row(7, 5, a, []), head + [0] * ROW_MOST + askings(7, 5, a))
        answers = numbers(ROW_MOST - 1, 11)
        check_long(self, map_row(7, 5, a, answers), head + answers + [0] + askings(7, 5, a))


if __name__ == "__main__":
    unittest.main()
