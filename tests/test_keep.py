import unittest

from handedover.rows import keep
from support import ANSWERS_MOST, C_MOST, FUNCTION_MOST, HIGH, LOW, ROW_MOST, askings, check_long, numbers


class Keep(unittest.TestCase):
    def test_asks_each_number_once_from_the_front_on_and_tells_those_kept(self):
        self.assertEqual(
            keep(7, 5, [10, 20, 30], [1, 0, 1]),
            [2, 2, 10, 30, 12, 7, 5, 10, 0, 7, 5, 20, 0, 7, 5, 30, 0],
        )

    def test_whatever_isn_t_0_keeps_a_number(self):
        a = [10, 20, 30, 40, 50, 60, 70]
        self.assertEqual(
            keep(7, 5, a, [0, 1, -1, 2, HIGH, LOW, 2**32]),
            [6, 6, 20, 30, 40, 50, 60, 70] + askings(7, 5, a),
        )

    def test_all_kept(self):
        self.assertEqual(keep(7, 5, [3, 1], [1, 1]), [2, 2, 3, 1, 8, 7, 5, 3, 0, 7, 5, 1, 0])

    def test_none_kept(self):
        self.assertEqual(keep(7, 5, [3, 1], [0, 0]), [0, 0, 8, 7, 5, 3, 0, 7, 5, 1, 0])

    def test_kept_and_not_kept_by_turns(self):
        a = [6, 5, 4, 3, 2]
        self.assertEqual(keep(7, 5, a, [1, 0, 1, 0, 1]), [3, 3, 6, 4, 2] + askings(7, 5, a))
        self.assertEqual(keep(7, 5, a, [0, 1, 0, 1, 0]), [2, 2, 5, 3] + askings(7, 5, a))

    def test_equal_numbers_with_different_answers(self):
        a = [4, 4, 9, 4]
        self.assertEqual(keep(1, 2, a, [1, 0, 0, 1]), [2, 2, 4, 4] + askings(1, 2, a))
        self.assertEqual(keep(1, 2, a, [0, 0, 1, 1]), [2, 2, 9, 4] + askings(1, 2, a))

    def test_a_number_0_is_kept_like_others(self):
        self.assertEqual(keep(7, 5, [0, 0], [1, 0]), [1, 1, 0, 8, 7, 5, 0, 0, 7, 5, 0, 0])

    def test_empty_row_asks_nothing_and_tells_nothing(self):
        self.assertEqual(keep(7, 5, [], []), [0, 0, 0])
        self.assertEqual(keep(7, 5, [], [1, 1]), [0, 0, 0])

    def test_row_of_one_number(self):
        self.assertEqual(keep(7, 5, [-1], [100]), [1, 1, -1, 4, 7, 5, -1, 0])
        self.assertEqual(keep(7, 5, [-1], [0]), [0, 0, 4, 7, 5, -1, 0])

    def test_no_answers(self):
        self.assertEqual(keep(7, 5, [1], []), [0, 0, 4, 7, 5, 1, 0])
        self.assertEqual(keep(7, 5, [1, 2], []), [0, 0, 8, 7, 5, 1, 0, 7, 5, 2, 0])

    def test_fewer_answers_than_are_asked_for(self):
        a = [1, 2, 3, 4]
        self.assertEqual(keep(7, 5, a, [0, 6]), [1, 1, 2] + askings(7, 5, a))
        self.assertEqual(keep(7, 5, a, [6, 6, 6]), [3, 3, 1, 2, 3] + askings(7, 5, a))

    def test_more_answers_than_are_asked_for(self):
        self.assertEqual(keep(7, 5, [1, 2], [0, 1, 1, 0]), [1, 1, 2, 8, 7, 5, 1, 0, 7, 5, 2, 0])

    def test_the_ends_of_the_ranges(self):
        a = [LOW, HIGH, LOW]
        self.assertEqual(
            keep(FUNCTION_MOST, C_MOST, a, [HIGH, LOW, 0]),
            [2, 2, LOW, HIGH] + askings(FUNCTION_MOST, C_MOST, a),
        )
        self.assertEqual(keep(0, 0, a, [0, LOW, HIGH]), [2, 2, HIGH, LOW] + askings(0, 0, a))

    def test_the_longest_row_and_the_most_answers(self):
        a = numbers(ROW_MOST, 3)
        asked = askings(7, 5, a)
        answers = [k % 3 for k in range(ANSWERS_MOST)]
        kept = [x for k, x in enumerate(a) if k % 3 > 0]
        check_long(self, keep(7, 5, a, answers), [len(kept), len(kept)] + kept + asked)
        check_long(self, keep(7, 5, a, [-1] * ANSWERS_MOST), [ROW_MOST, ROW_MOST] + a + asked)

    def test_the_longest_row_without_answers_and_with_one_too_few(self):
        a = numbers(ROW_MOST, HIGH // ROW_MOST)
        asked = askings(7, 5, a)
        check_long(self, keep(7, 5, a, []), [0, 0] + asked)
        check_long(self, keep(7, 5, a, [1] * (ROW_MOST - 1)), [ROW_MOST - 1, ROW_MOST - 1] + a[:-1] + asked)


if __name__ == "__main__":
    unittest.main()
