package siread

import (
	"slices"
	"sort"

	"keystone/api"
)

// notes are those of one transaction and one table. As none of them covers another one, they rise by where their keys begin, and by where these end, too.
type notes []*api.Read

// begun is how many of them begin at a key or below it.
func (l notes) begun(key string) int {
	return sort.Search(len(l), func(i int) bool { return l[i].From > key })
}

// cover tells whether one of them covers a note. Of those that begin where it does, or below, the last one ends above all others: no other one needs to be asked.
func (l notes) cover(x api.Read) bool {
	n := l.begun(x.From)
	return n > 0 && Covers(*l[n-1], x)
}

// with is the notes with one more, which none of them covers, in the place of those that it covers.
func (l notes) with(x api.Read) notes {
	first := l.begun(x.From)
	if first > 0 && Covers(x, *l[first-1]) { // it begins at the same key
		first--
	}
	last := first
	for last < len(l) && Covers(x, *l[last]) {
		last++
	}
	return slices.Replace(l, first, last, &x)
}
