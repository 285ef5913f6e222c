import unittest
from fractions import Fraction

from tests.calls import END, ask, ask_notes, check_same, frames, note, start


def holds(n, rate, period, a):
    """The document's words for the note's number, with no step of the program's."""
    sounding = Fraction(a * period) ** 24
    low = Fraction(2) ** (2 * n - 139) * sounding
    high = Fraction(2) ** (2 * n - 137) * sounding
    return low <= rate ** 24 < high


def told_by_words(rate, period, a):
    for n in range(128):
        if holds(n, rate, period, a):
            return n
    return -2


# Among the nearest that there are to an edge between two notes: some by a few parts in 10^15 alone.
JUST_IN_THE_HIGHER = [
    ((769447, 14363, 2801), 1),
    ((846853, 54258, 458), 11),
    ((992284, 50039, 173), 32),
    ((573349, 47987, 117), 30),
    ((864049, 53419, 28), 60),
    ((617086, 27616, 23), 69),
    ((904382, 39938, 22), 70),
    ((52683, 377, 24), 100),
    ((741841, 1116, 24), 127),
]
JUST_IN_THE_LOWER = [
    ((967509, 25849, 1957), 0),
    ((683711, 6287, 4513), 4),
    ((912612, 18727, 1135), 14),
    ((557887, 39665, 65), 42),
    ((652724, 2689, 2377), 29),
    ((428544, 13997, 53), 59),
    ((747861, 30791, 25), 68),
    ((952752, 29859, 31), 69),
    ((951281, 6051, 27), 99),
    ((934641, 397, 85), 126),
]


class Note(unittest.TestCase):
    def check(self, cases):
        self.assertEqual(ask_notes([one for one, told in cases]), [told for one, told in cases])

    def test_ordinary_periods(self):
        self.check([
            ((44100, 100, 441), 69),
            ((44000, 100, 440), 69),
            ((48000, 109, 440), 69),
            ((48000, 183, 440), 60),
            ((44100, 169, 440), 60),
            ((44100, 401, 440), 45),
            ((8000, 8, 440), 83),
            ((44100, 1604, 440), 21),
        ])

    def test_ranges_of_rate(self):
        self.check([
            ((0, 10, 440), -22), ((999, 10, 440), -22), ((1000, 10, 440), 43),
            ((1000000, 1000, 440), 83), ((1000001, 1000, 440), -22), ((4294967295, 1000, 440), -22),
        ])

    def test_ranges_of_period(self):
        self.check([
            ((8000, 0, 440), -22), ((8000, 1, 440), 119), ((1000000, 65535, 440), 11),
            ((1000000, 65536, 440), -22), ((1000000, 4294967295, 440), -22),
        ])

    def test_ranges_of_a(self):
        self.check([
            ((8000, 400, 0), -22), ((8000, 400, 19), -22), ((8000, 400, 20), 69),
            ((1000000, 50, 20000), 69), ((1000000, 50, 20001), -22), ((1000000, 50, 4294967295), -22),
        ])

    def test_out_of_range_goes_before_no_note(self):
        self.check([((999, 65535, 20000), -22), ((1000000, 0, 20), -22), ((1000000, 1, 19), -22)])

    def test_all_ranges_at_their_ends(self):
        self.check([((1000, 65535, 20000), -2), ((1000000, 1, 20), -2)])
        ends = [(rate, period, a) for rate in (1000, 1000000) for period in (1, 65535) for a in (20, 20000)]
        self.assertEqual(ask_notes(ends), [told_by_words(*one) for one in ends])

    def test_lowest_note(self):
        self.check([
            ((997969, 45839, 1206), 0), ((864049, 53419, 896), 0),
            ((13392, 13997, 53), -2), ((40176, 41991, 53), -2),
        ])

    def test_highest_note(self):
        self.check([
            ((676793, 961, 24), 127), ((662297, 610, 37), 127),
            ((691289, 2, 11779), -2), ((698537, 1035, 23), -2),
        ])

    def test_every_note_is_told(self):
        periods = [(1000000, period, a) for a in (20, 600, 20000) for period in range(1, 4000)]
        periods = periods + [(1000, period, 20000) for period in range(1, 300)]
        told = ask_notes(periods)
        self.assertEqual(sorted(set(told)), [-2] + list(range(128)))

    def test_just_between_two_notes(self):
        self.check(JUST_IN_THE_HIGHER)
        self.check(JUST_IN_THE_LOWER)

    def test_just_between_by_the_words(self):
        for one, told in JUST_IN_THE_HIGHER + JUST_IN_THE_LOWER:
            self.assertTrue(holds(told, *one), one)

    def test_next_period_over_each_edge(self):
        for rate, a in ((1000000, 20), (1000000, 440), (44100, 440), (1000, 20)):
            periods = [(rate, period, a) for period in range(1, 3000)]
            told = ask_notes(periods)
            for k in range(1, len(told)):
                if told[k] != told[k - 1]:
                    self.assertEqual(told[k - 1], told_by_words(*periods[k - 1]))
                    self.assertEqual(told[k], told_by_words(*periods[k]))

    def test_by_the_words(self):
        periods = [
            (1000 + k * 7919 % 999001, 1 + k * k * 104729 % 65535, 20 + k * 611953 % 19981)
            for k in range(300)
        ]
        check_same(self, ask_notes(periods), [told_by_words(*one) for one in periods])

    def test_an_octave(self):
        for rate, a in ((1000000, 20), (44100, 440), (1000000, 20000)):
            periods = list(range(1, 2000)) + list(range(2000, 32768, 7)) + [32767]
            once = ask_notes([(rate, period, a) for period in periods])
            twice = ask_notes([(rate, 2 * period, a) for period in periods])
            for high, low in zip(once, twice):
                if high >= 12:
                    self.assertEqual(low, high - 12)
                elif high >= 0:
                    self.assertEqual(low, -2)

    def test_an_octave_beside_an_edge(self):
        near = [one for one, told in JUST_IN_THE_HIGHER + JUST_IN_THE_LOWER if one[1] <= 32767]
        once = ask_notes(near)
        twice = ask_notes([(rate, 2 * period, a) for rate, period, a in near])
        self.assertEqual(twice, [told - 12 if told >= 12 else -2 for told in once])

    def test_notes_do_not_rise_with_the_period(self):
        for rate, a in ((1000000, 20), (44100, 440)):
            told = ask_notes([(rate, period, a) for period in range(1, 65536)])
            notes = [number for number in told if number >= 0]
            check_same(self, notes, sorted(notes, reverse=True))
            # Where there is none, it lies above the highest note or below the lowest one.
            first = told.index(notes[0])
            check_same(self, told[first:first + len(notes)], notes)

    def test_needs_no_start_and_leaves_the_object(self):
        plain = [start(2)] + frames(60, 60, 61, 61, 128) + [END]
        mixed = [note(44000, 100, 440)]
        for call in plain:
            mixed = mixed + [call, note(44000, 100, 440), note(1, 1, 1)]
        told = ask(mixed)
        self.assertEqual(told[0], [69])
        self.assertEqual(told[1::3], ask(plain))
        self.assertEqual(told[2::3], [[69]] * len(plain))
        self.assertEqual(told[3::3], [[-22]] * len(plain))


if __name__ == "__main__":
    unittest.main()
