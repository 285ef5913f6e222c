"""Calls as the tests write them, and the desk's answers, taken apart call by call."""

from whichnote.desk import answers


def note(rate, period, a):
    return [0, rate, period, a]


def start(keep):
    return [1, keep]


def frame(told):
    return [2, told]


def frames(*told):
    return [frame(one) for one in told]


END = [3]


def ask(calls):
    """One answer, a list, for each of the calls."""
    given = answers([number for call in calls for number in call])
    parts = []
    place = 0
    while place < len(given):
        size = given[place]
        part = given[place + 1:place + 1 + size]
        if size < 1 or len(part) != size:
            raise AssertionError(f"no such count of numbers: {given!r}")
        parts.append(part)
        place += 1 + size
    if len(parts) != len(calls):
        raise AssertionError(f"{len(calls)} calls, but {len(parts)} answers")
    return parts


def ask_notes(periods):
    """The number answered for each (rate, period, a), however many there are."""
    numbers = []
    for first in range(0, len(periods), 5000):
        for part in ask([note(*one) for one in periods[first:first + 5000]]):
            if len(part) != 1:
                raise AssertionError(f"note answers one number, not {part!r}")
            numbers.append(part[0])
    return numbers


def check_same(test, found, expected):
    """As assertEqual, but quick where long lists differ: it tells the first place alone."""
    for place, (one, other) in enumerate(zip(found, expected)):
        if one != other:
            test.fail(f"at {place}: {one!r}, not {other!r}")
    test.assertEqual(len(found), len(expected))
