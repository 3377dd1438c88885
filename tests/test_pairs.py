import unittest

from handedover.rows import pairs
from support import ANSWERS_MOST, C_MOST, FUNCTION_MOST, HIGH, LOW, ROW_MOST, askings, check_long, numbers


class Pairs(unittest.TestCase):
    def test_asks_of_each_two_neighbours_from_the_front_on(self):
        self.assertEqual(
            pairs(7, 5, [1, 2, 3, 4], [100, 200, 300]),
            [3, 3, 100, 200, 300, 12, 7, 5, 1, 2, 7, 5, 2, 3, 7, 5, 3, 4],
        )

    def test_the_answers_are_not_asked_of(self):
        self.assertEqual(
            pairs(1, 2, [9, -4, 9], [50, 60]),
            [2, 2, 50, 60, 8, 1, 2, 9, -4, 1, 2, -4, 9],
        )

    def test_equal_neighbours_with_different_answers(self):
        self.assertEqual(
            pairs(1, 2, [4, 4, 4, 4], [-9, 0, 4]),
            [3, 3, -9, 0, 4, 12, 1, 2, 4, 4, 1, 2, 4, 4, 1, 2, 4, 4],
        )

    def test_empty_row_asks_nothing_and_tells_nothing(self):
        self.assertEqual(pairs(7, 5, [], []), [0, 0, 0])
        self.assertEqual(pairs(7, 5, [], [100, 200]), [0, 0, 0])

    def test_row_of_one_number_has_no_neighbours(self):
        self.assertEqual(pairs(7, 5, [-1], []), [0, 0, 0])
        self.assertEqual(pairs(7, 5, [-1], [100, 200]), [0, 0, 0])

    def test_row_of_two_numbers(self):
        self.assertEqual(pairs(7, 5, [-1, 8], [100]), [1, 1, 100, 4, 7, 5, -1, 8])

    def test_no_answers(self):
        self.assertEqual(pairs(7, 5, [1, 2], []), [1, 1, 0, 4, 7, 5, 1, 2])
        self.assertEqual(pairs(7, 5, [1, 2, 3], []), [2, 2, 0, 0, 8, 7, 5, 1, 2, 7, 5, 2, 3])

    def test_fewer_answers_than_are_asked_for(self):
        self.assertEqual(
            pairs(7, 5, [1, 2, 3, 4], [100]),
            [3, 3, 100, 0, 0, 12, 7, 5, 1, 2, 7, 5, 2, 3, 7, 5, 3, 4],
        )
        self.assertEqual(pairs(7, 5, [1, 2, 3], [100]), [2, 2, 100, 0, 8, 7, 5, 1, 2, 7, 5, 2, 3])

    def test_more_answers_than_are_asked_for(self):
        self.assertEqual(pairs(7, 5, [1, 2, 3], [100, 200, 300]), [2, 2, 100, 200, 8, 7, 5, 1, 2, 7, 5, 2, 3])

    def test_the_ends_of_the_ranges(self):
        self.assertEqual(
            pairs(FUNCTION_MOST, C_MOST, [LOW, HIGH, LOW], [HIGH, LOW]),
            [2, 2, HIGH, LOW, 8, FUNCTION_MOST, C_MOST, LOW, HIGH, FUNCTION_MOST, C_MOST, HIGH, LOW],
        )
        self.assertEqual(
            pairs(0, 0, [HIGH, LOW, LOW], [LOW, HIGH]),
            [2, 2, LOW, HIGH, 8, 0, 0, HIGH, LOW, 0, 0, LOW, LOW],
        )

    def test_the_longest_row_and_the_most_answers(self):
        a = numbers(ROW_MOST, 3)
        answers = numbers(ANSWERS_MOST, 11)
        count = ROW_MOST - 1
        check_long(
            self,
            pairs(7, 5, a, answers),
            [count, count] + answers[:count] + askings(7, 5, a[:-1], a[1:]),
        )

    def test_the_longest_row_without_answers_and_with_one_too_few(self):
        a = numbers(ROW_MOST, HIGH // ROW_MOST)
        asked = askings(7, 5, a[:-1], a[1:])
        count = ROW_MOST - 1
        check_long(self, pairs(7, 5, a, []), [count, count] + [0] * count + asked)
        answers = numbers(count - 1, 11)
        check_long(self, pairs(7, 5, a, answers), [count, count] + answers + [0] + asked)


if __name__ == "__main__":
    unittest.main()
