"""Which note: a period is a note, and notes are told from frame to frame."""
