package wear

import "rheostat/api"

// Next is the group behind a group, round.
func Next(groups, g int) (int, api.Errno) { return Turn(groups, g, 1) }

// Turn is the n-th group behind a group, round.
func Turn(groups, g, n int) (int, api.Errno) {
	if !among(groups, g) || n < 0 {
		return 0, api.ErrArg
	}
	n %= groups
	if left := groups - g; n >= left { // g and n together may be no number
		return n - left, api.OK
	}
	return g + n, api.OK
}

// among tells whether there is such a one of so many.
func among(many, at int) bool { return 0 <= at && at < many }
