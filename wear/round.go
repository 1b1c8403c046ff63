package wear

import (
	"rheostat/api"
	"rheostat/flash"
)

// round is what goes round, page by page: so many pages, from the first one on, with the flash that it goes round on.
type round struct {
	*flash.Flash
	first, many int
}

// all goes round on all pages; on a flash that no call made there are none.
func all(f *flash.Flash) round {
	shape := f.Geometry()
	return round{Flash: f, many: shape.Groups * shape.Pages}
}

// group goes round on a group's pages.
func group(f *flash.Flash, g int) (round, api.Errno) {
	shape := f.Geometry()
	return part(f, shape.Groups, shape.Pages, g)
}

// part goes round on one of the parts of a flash, so many, each of so many pages. Without parts it is a flash that no call made.
func part(f *flash.Flash, parts, pages, at int) (round, api.Errno) {
	switch {
	case parts == 0:
		return round{}, api.ErrNil
	case !among(parts, at):
		return round{}, api.ErrArg
	}
	return round{Flash: f, first: at * pages, many: pages}, api.OK
}

// page goes round on one page alone.
func (r round) page(page int) round { return round{Flash: r.Flash, first: page, many: 1} }

// pages are the pages, in order.
func (r round) pages() []int {
	var l []int
	for i := range r.many {
		l = append(l, r.first+i)
	}
	return l
}

// counts is of each page how many times it was erased.
func (r round) counts() []int {
	var l []int
	for _, page := range r.pages() {
		l = append(l, r.Erases(page))
	}
	return l
}

// words are the pages' words. They are read one by one, as an image would be told without power, too.
func (r round) words() ([]int, api.Errno) {
	size := r.Geometry().Words
	var l []int
	for i := range r.many * size {
		w, e := r.Read(r.first*size + i)
		if e != api.OK {
			return nil, e
		}
		l = append(l, w)
	}
	return l, api.OK
}

// blank tells whether all words of the pages are Blank.
func (r round) blank() (bool, api.Errno) {
	l, e := r.words()
	if e != api.OK {
		return false, e
	}
	for _, w := range l {
		if w != api.Blank {
			return false, api.OK
		}
	}
	return true, api.OK
}

// clean erases each of the pages that is not blank, in order.
func (r round) clean() (int, api.Errno) {
	erased := 0
	for _, page := range r.pages() {
		is, e := r.page(page).blank()
		if e != api.OK {
			return 0, e
		}
		if is {
			continue
		}
		if e := r.Erase(page); e != api.OK {
			return 0, e
		}
		erased++
	}
	return erased, api.OK
}
