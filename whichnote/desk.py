"""The desk: answers a list of calls on one new object."""

NOTE = 0
START = 1
FRAME = 2

# How many numbers a call takes in the list, its own number included.
CALL_LENGTHS = (4, 2, 2, 1)

NOTES = 128

# What a frame tells where there is no note: the number behind the highest one.
NOTHING = 128

OUT_OF_RANGE = -22
NOT_A_NOTE = -2


def is_period(rate, period, a):
    if rate < 1000 or rate > 1000000:
        return False
    if period < 1 or period > 65535:
        return False
    return a >= 20 and a <= 20000


def note_of_period(rate, period, a):
    if not is_period(rate, period, a):
        return OUT_OF_RANGE
    # Both sides are taken 2 to the 139th times, so that note 0 begins at a whole number too.
    sound = rate ** 24 * 2 ** 64 * 2 ** 64 * 2 ** 11
    edge = (a * period) ** 24
    if sound < edge:
        return NOT_A_NOTE
    for note in range(NOTES):
        # What was the lower edge of this note is now that of the next one.
        edge = edge * 4
        if sound < edge:
            return note
    return NOT_A_NOTE


class Listener:
    def __init__(self):
        self.keep = 1
        self.frames = 0
        self.sounding = NOTHING
        self.since = 0
        self.viewed = NOTHING
        # 0 where nothing is in view; whatever viewed holds then, the next to come is in view for one frame.
        self.viewed_frames = 0

    def begin(self, keep):
        if keep < 1 or keep > 100:
            return [OUT_OF_RANGE]
        self.keep = keep
        self.frames = 0
        self.turn_on(NOTHING, 0)
        return [0]

    def take_frame(self, told):
        if told > NOTHING:
            return [OUT_OF_RANGE]
        self.frames = self.frames + 1
        self.look_at(told)
        if self.viewed_frames < self.keep:
            return [0]
        first = self.frames - self.keep
        ended = self.ended_before(first)
        self.turn_on(told, first)
        return ended

    def finish(self):
        ended = self.ended_before(self.frames)
        self.turn_on(NOTHING, self.frames)
        return ended

    def look_at(self, told):
        # What is in view is always what the frame before told, so that need not be kept by itself.
        if told == self.sounding:
            self.viewed_frames = 0
        elif told == self.viewed:
            self.viewed_frames = self.viewed_frames + 1
        else:
            self.viewed = told
            self.viewed_frames = 1

    def ended_before(self, frame):
        if self.sounding == NOTHING:
            return [0]
        return [1, self.sounding, self.since, frame - self.since]

    def turn_on(self, what, frame):
        self.sounding = what
        self.since = frame
        self.viewed_frames = 0


def answer_call(listener, calls, place):
    call = calls[place]
    if call == NOTE:
        return [note_of_period(calls[place + 1], calls[place + 2], calls[place + 3])]
    if call == START:
        return listener.begin(calls[place + 1])
    if call == FRAME:
        return listener.take_frame(calls[place + 1])
    return listener.finish()


def answers(calls):
    listener = Listener()
    answered = []
    place = 0
    while place < len(calls):
        answer = answer_call(listener, calls, place)
        answered.append(len(answer))
        answered.extend(answer)
        place = place + CALL_LENGTHS[calls[place]]
    return answered
