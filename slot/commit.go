package slot

import "rheostat/api"

// Commit is a record that makes so many others count.
func Commit(sequence, many int, first bool) (api.Slot, api.Errno) {
	if _, e := halves(sequence); e != api.OK || !within(1, api.LiveMax, many) {
		return api.Slot{}, api.ErrArg
	}
	c := api.Slot{Kind: api.LiveMax, Sequence: sequence, Payload: Payload(many)}
	if first {
		c.Payload[1] = 1
	}
	return c, api.OK
}

// IsCommit tells how many records a commit makes count, whether it is the first one, and whether it is a commit: only what Commit makes is one.
func IsCommit(s api.Slot) (int, bool, bool) {
	many, first := s.Payload[0], s.Payload[1] == 1
	c, e := Commit(s.Sequence, many, first)
	if e != api.OK || c != s {
		return 0, false, false
	}
	return many, first, true
}
