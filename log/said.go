package log

import (
	"rheostat/api"
	"rheostat/flash"
	"rheostat/group"
	"rheostat/wear"
)

// said is what a group says, and which one it is.
type said struct {
	group.Found
	number int
}

// hear reads what a group says.
func hear(f *flash.Flash, g int) (said, api.Errno) {
	words, e := wear.Words(f, g)
	if e != api.OK {
		return said{}, e
	}
	return said{group.Scan(words...), g}, api.OK
}

// best reads what the group that counts says.
func best(f *flash.Flash) (said, api.Errno) {
	var l said
	for g := range f.Geometry().Groups {
		s, e := hear(f, g)
		if e != api.OK {
			return said{}, e
		}
		if s.counts(l) {
			l = s
		}
	}
	return l, api.OK
}

// counts tells whether a group counts rather than one ahead of it.
func (s said) counts(ahead said) bool {
	return s.Has && (!ahead.Has || s.Sequence > ahead.Sequence)
}
