package meter

import "haymow/api"

// most is how many words may be in use.
const most = 1 << 48

// space counts the words in use.
type space struct {
	held, high int
}

// hold increases the number of words in use by n.
func (s *space) hold(n int) api.Errno {
	if n < 0 {
		return api.ErrArg
	}
	// n is held against the room that is left: the sum could overflow.
	if n > most-s.held {
		return api.ErrFull
	}
	s.held += n
	s.high = max(s.high, s.held)
	return api.OK
}

// free decreases the number of words in use by n.
func (s *space) free(n int) api.Errno {
	if n < 0 {
		return api.ErrArg
	}
	if n > s.held {
		return api.ErrNone
	}
	s.held -= n
	return api.OK
}
