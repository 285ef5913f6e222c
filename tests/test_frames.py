import itertools
import unittest

from tests.calls import END, ask, check_same, frame, frames, start


def told_by_runs(keep, calls):
    """What frames (their numbers) and ends (None) answer, found from whole runs of like frames.

    A run is on from its first frame on if it has keep frames and isn't what's on by then;
    this goes from run to run, not from frame to frame as the program does.
    """
    answers = [[0] for call in calls]
    on, since, number, place = 128, 0, 0, 0
    while place < len(calls):
        run = 1
        if calls[place] is None:
            if on != 128:
                answers[place] = [1, on, since, number - since]
            on = 128
        else:
            while place + run < len(calls) and calls[place + run] == calls[place]:
                run += 1
            if run >= keep and calls[place] != on:
                if on != 128:
                    answers[place + keep - 1] = [1, on, since, number - since]
                on, since = calls[place], number
            number += run
        place += run
    return answers


def as_calls(keep, told):
    return [start(keep)] + [END if one is None else frame(one) for one in told]


class Start(unittest.TestCase):
    def test_ranges_of_keep(self):
        keeps = [0, 1, 2, 99, 100, 101, 4294967295]
        self.assertEqual(ask([start(keep) for keep in keeps]), [[-22], [0], [0], [0], [0], [-22], [-22]])

    def test_keep_1_is_on_at_once(self):
        self.assertEqual(ask([start(1)] + frames(60, 61) + [END]), [[0], [0], [1, 60, 0, 1], [1, 61, 1, 1]])

    def test_keep_100(self):
        just = ask([start(100)] + frames(*[60] * 100) + [END])
        self.assertEqual(just, [[0]] * 101 + [[1, 60, 0, 100]])
        fewer = ask([start(100)] + frames(*[60] * 99) + [END])
        self.assertEqual(fewer, [[0]] * 101)

    def test_refused_start_leaves_the_object(self):
        for keep in (0, 101, 4294967295):
            with self.subTest(keep=keep):
                before = [start(3)] + frames(60, 60, 60, 61, 61)
                after = frames(61) + [END]
                told = ask(before + [start(keep)] + after)
                self.assertEqual(told, [[0]] * 6 + [[-22], [1, 60, 0, 3], [1, 61, 3, 3]])

    def test_refused_first_start(self):
        told = ask([start(0), start(101), start(2)] + frames(60, 60) + [END])
        self.assertEqual(told, [[-22], [-22], [0], [0], [0], [1, 60, 0, 2]])

    def test_start_amid_a_note_begins_anew(self):
        told = ask([start(2)] + frames(60, 60, 60) + [start(2)] + frames(61, 61) + [END])
        self.assertEqual(told, [[0]] * 7 + [[1, 61, 0, 2]])

    def test_start_leaves_nothing_on(self):
        self.assertEqual(ask([start(1), frame(60), start(1), END]), [[0]] * 4)

    def test_start_leaves_nothing_in_view(self):
        told = ask([start(3)] + frames(60, 60) + [start(3), frame(60), END])
        self.assertEqual(told, [[0]] * 6)
        told = ask([start(3)] + frames(60, 60) + [start(3)] + frames(60, 60, 60) + [END])
        self.assertEqual(told, [[0]] * 7 + [[1, 60, 0, 3]])

    def test_start_takes_another_keep(self):
        told = ask([start(3)] + frames(60, 60) + [start(1)] + frames(62, 63) + [END])
        self.assertEqual(told, [[0]] * 5 + [[1, 62, 0, 1], [1, 63, 1, 1]])

    def test_frames_are_numbered_from_0_after_a_start_behind_an_end(self):
        told = ask([start(1), frame(60), END, start(1), frame(61), END])
        self.assertEqual(told, [[0], [0], [1, 60, 0, 1], [0], [0], [1, 61, 0, 1]])


class Frame(unittest.TestCase):
    def test_ranges_of_note(self):
        told = ask([start(1)] + frames(0, 127, 128, 129, 4294967295))
        self.assertEqual(told, [[0], [0], [1, 0, 0, 1], [1, 127, 1, 1], [-22], [-22]])

    def test_refused_frame_is_none(self):
        for wrong in (129, 256, 4294967295):
            with self.subTest(wrong=wrong):
                calls = [start(3)]
                for told in (60, 60, 60, 61, 61, 61):
                    calls = calls + [frame(wrong), frame(told)]
                told = ask(calls + [frame(wrong), END])
                self.assertEqual(told[1::2], [[-22]] * 7)
                self.assertEqual(told[2::2], [[0]] * 5 + [[1, 60, 0, 3], [1, 61, 3, 3]])

    def test_told_late_by_keep(self):
        told = ask([start(4)] + frames(60, 60, 60, 60, 60, 61, 61, 61, 61) + [END])
        self.assertEqual(told, [[0]] * 9 + [[1, 60, 0, 5], [1, 61, 5, 4]])

    def test_every_keep_is_late_by_itself(self):
        for keep in range(1, 101):
            told = ask([start(keep)] + frames(*[7] * keep) + frames(*[9] * keep) + [END])
            check_same(self, told, [[0]] * (2 * keep) + [[1, 7, 0, keep], [1, 9, keep, keep]])

    def test_nothing_first(self):
        told = ask([start(2)] + frames(128, 128, 128, 60, 60, 60) + [END])
        self.assertEqual(told, [[0]] * 7 + [[1, 60, 3, 3]])

    def test_nothing_ends_a_note(self):
        told = ask([start(2)] + frames(60, 60, 60, 128, 128, 128) + [END])
        self.assertEqual(told, [[0]] * 5 + [[1, 60, 0, 3], [0], [0]])

    def test_nothing_in_view_ends_no_note(self):
        told = ask([start(3)] + frames(60, 60, 60, 128, 128, 60, 128, 128, 61, 128, 128, 128))
        self.assertEqual(told, [[0]] * 12 + [[1, 60, 0, 9]])

    def test_nothing_takes_a_note_out_of_view(self):
        told = ask([start(2)] + frames(60, 128, 60, 128, 60, 60) + [END])
        self.assertEqual(told, [[0]] * 7 + [[1, 60, 4, 2]])

    def test_nothing_on_never_ends(self):
        self.assertEqual(ask([start(1)] + frames(128, 128, 60, 128, 61)), [[0]] * 4 + [[1, 60, 2, 1], [0]])

    def test_trembling_between_two_notes(self):
        told = ask([start(2)] + frames(60, 60, 61, 60, 61, 60, 61) + [END])
        self.assertEqual(told, [[0]] * 8 + [[1, 60, 0, 7]])
        told = ask([start(2)] + frames(60, 60, 61, 62, 61, 62, 62) + [END])
        self.assertEqual(told, [[0]] * 7 + [[1, 60, 0, 5], [1, 62, 5, 2]])

    def test_trembling_from_the_beginning(self):
        self.assertEqual(ask([start(2)] + frames(60, 61, 60, 61, 60, 61) + [END]), [[0]] * 8)

    def test_a_note_that_comes_again_at_once(self):
        told = ask([start(2)] + frames(60, 60, 128, 128, 60, 60) + [END])
        self.assertEqual(told, [[0]] * 4 + [[1, 60, 0, 2], [0], [0], [1, 60, 4, 2]])
        told = ask([start(1)] + frames(60, 128, 60, 60) + [END])
        self.assertEqual(told, [[0], [0], [1, 60, 0, 1], [0], [0], [1, 60, 2, 2]])
        told = ask([start(2)] + frames(60, 60, 128, 60, 60) + [END])
        self.assertEqual(told, [[0]] * 6 + [[1, 60, 0, 5]])

    def test_what_comes_back_is_in_view_anew(self):
        told = ask([start(3)] + frames(60, 60, 60, 61, 61, 60, 61, 61) + [END])
        self.assertEqual(told, [[0]] * 9 + [[1, 60, 0, 8]])

    def test_by_runs(self):
        for keep in (1, 2, 3):
            for told in itertools.product((60, 61, 128, None), repeat=7):
                answered = ask(as_calls(keep, told))
                self.assertEqual(answered, [[0]] + told_by_runs(keep, told), (keep, told))

    def test_long_by_runs(self):
        for keep in (1, 2, 5, 12, 100):
            told = []
            for k in range(180):
                one = (60, 61, 128, 62, 0, 127)[k * k * 31 % 101 % 6]
                told.extend([one] * (k * 17 % (2 * keep) + 1))
                if k % 23 == 22:
                    told.append(None)
            told = told[:4999]
            check_same(self, ask(as_calls(keep, told)), [[0]] + told_by_runs(keep, told))


class End(unittest.TestCase):
    def test_with_a_note_on(self):
        self.assertEqual(ask([start(2)] + frames(60, 60, 60) + [END]), [[0]] * 4 + [[1, 60, 0, 3]])

    def test_with_nothing_on(self):
        self.assertEqual(ask([start(2), END]), [[0], [0]])
        self.assertEqual(ask([start(2)] + frames(128, 128) + [END]), [[0]] * 4)

    def test_with_a_note_in_view_and_nothing_on(self):
        told = ask([start(3)] + frames(60, 60) + [END] + frames(60, 60) + [END])
        self.assertEqual(told, [[0]] * 7)

    def test_with_something_in_view_and_a_note_on(self):
        for viewed in (61, 128):
            with self.subTest(viewed=viewed):
                told = ask([start(3)] + frames(60, 60, 60, viewed, viewed) + [END, frame(viewed), END])
                self.assertEqual(told, [[0]] * 6 + [[1, 60, 0, 5], [0], [0]])

    def test_with_nothing_in_view_while_nothing_is_on_behind_it(self):
        told = ask([start(2)] + frames(60, 60, 128) + [END] + frames(128, 60, 60) + [END])
        self.assertEqual(told, [[0]] * 4 + [[1, 60, 0, 3], [0], [0], [0], [1, 60, 4, 2]])

    def test_twice_in_a_row(self):
        told = ask([start(1), frame(60), END, END, END])
        self.assertEqual(told, [[0], [0], [1, 60, 0, 1], [0], [0]])

    def test_frames_are_numbered_on(self):
        told = ask([start(2)] + frames(60, 60, 60) + [END] + frames(61, 62, 62, 62) + [END, END])
        self.assertEqual(told, [[0]] * 4 + [[1, 60, 0, 3]] + [[0]] * 4 + [[1, 62, 4, 3], [0]])

    def test_the_same_note_behind_it(self):
        told = ask([start(2)] + frames(60, 60) + [END] + frames(60, 60) + [END] + frames(60) + [END])
        self.assertEqual(told, [[0]] * 3 + [[1, 60, 0, 2], [0], [0], [1, 60, 2, 2], [0], [0]])

    def test_keep_stays(self):
        told = ask([start(2), END] + frames(60, 61, 61) + [END])
        self.assertEqual(told, [[0]] * 5 + [[1, 61, 1, 2]])


class WhatHolds(unittest.TestCase):
    def test_notes_do_not_overlap(self):
        for keep in (1, 2, 3):
            for told in itertools.product((5, 6, 128, None), repeat=7):
                free, seen = 0, 0
                for call, answer in zip(told, ask(as_calls(keep, told))[1:]):
                    if call is not None:
                        seen += 1
                    if answer[0] == 1:
                        one, since, length = answer[1:]
                        self.assertIn(one, (5, 6))
                        self.assertGreaterEqual(since, free)
                        self.assertGreaterEqual(length, keep)
                        free = since + length
                        self.assertLessEqual(free, seen)

    def test_fewer_wrong_frames_than_keep_change_nothing(self):
        for keep in (1, 2, 3, 4):
            for on in (60, 128):
                for count in range(keep):
                    for wrong in itertools.product((60, 61, 62, 128), repeat=count):
                        before = [start(keep)] + frames(*[59] * keep) + frames(*[on] * keep)
                        after = frames(*[63] * keep) + [END]
                        calm = ask(before + frames(*[on] * count) + frames(on) + after)
                        self.assertEqual(ask(before + frames(*wrong) + frames(on) + after), calm)

    def test_as_many_wrong_frames_as_keep_do(self):
        told = ask([start(3)] + frames(60, 60, 60, 61, 61, 61, 60) + [END])
        self.assertEqual(told, [[0]] * 6 + [[1, 60, 0, 3], [0], [1, 61, 3, 4]])


if __name__ == "__main__":
    unittest.main()
