package log

import (
	"rheostat/api"
	"rheostat/group"
	"rheostat/wear"
)

// Commit commits values: behind what the group that counts has, or with all else that is alive in the group behind it.
func (l *Log) Commit(values ...api.Slot) api.Errno {
	switch {
	case !l.made():
		return api.ErrNil
	case l.gone:
		return api.ErrPower
	case !l.may(values...):
		return api.ErrArg
	case l.Sequence() == greatest:
		return api.ErrFull
	}
	s, e := l.commit(values...)
	if e != api.OK {
		l.gone = true
		return e
	}
	l.said = s
	return api.OK
}

// may tells whether values may be committed. Where there are no words Put has no room for those that may be; and where nothing counts none may be missing, as they are the first ones.
func (l *Log) may(values ...api.Slot) bool {
	_, _, e := group.Put(nil, 0, false, values...)
	return e == api.ErrFull && (l.Has() || len(values) == api.LiveMax)
}

// commit puts values where there is room for them; what that group says then.
func (l *Log) commit(values ...api.Slot) (said, api.Errno) {
	if l.Has() {
		s, e := l.put(l.number, false, values...)
		if e != api.ErrFull {
			return s, e
		}
	}
	g := l.behind()
	if _, e := wear.Clean(l.flash, g); e != api.OK {
		return said{}, e
	}
	return l.put(g, true, l.all(values...)...)
}

// behind is the group behind the one that counts, the first one if none does.
func (l *Log) behind() int {
	if !l.Has() {
		return 0
	}
	g, _ := wear.Next(l.flash.Geometry().Groups, l.number)
	return g
}

// all is what is alive, with values in place of those of their Kinds.
func (l *Log) all(values ...api.Slot) []api.Slot {
	var records []api.Slot
	for kind, payload := range l.Live {
		records = append(records, api.Slot{Kind: kind, Payload: payload})
	}
	for _, v := range values {
		records[v.Kind] = v
	}
	return records
}

// put programs records into a group, with the Sequence and 1, behind all that is not blank in its words as they are now; what it says then.
func (l *Log) put(g int, first bool, records ...api.Slot) (said, api.Errno) {
	words, e := wear.Words(l.flash, g)
	if e != api.OK {
		return said{}, e
	}
	own, at, e := group.Put(words, l.Sequence()+1, first, records...)
	if e != api.OK {
		return said{}, e
	}
	if e := l.flash.Program(g*len(words)+at, own...); e != api.OK {
		return said{}, e
	}
	return hear(l.flash, g)
}
