package clock

import (
	"slices"
	"strings"
)

// hold is a name that holds a clock at a time, and where it stands in the pile.
type hold struct {
	name  string
	time  int64
	place int
}

// pile is holds as the library's heap goes about them (heap.Interface); the least time comes first, of several the least name.
type pile []*hold

func (p pile) Len() int { return len(p) }

func (p pile) Less(i, j int) bool {
	if p[i].time != p[j].time {
		return p[i].time < p[j].time
	}
	return p[i].name < p[j].name
}

func (p pile) Swap(i, j int) {
	p[i], p[j] = p[j], p[i]
	p[i].place, p[j].place = i, j
}

func (p *pile) Push(x any) {
	h := x.(*hold)
	h.place = len(*p)
	*p = append(*p, h)
}

func (p *pile) Pop() any {
	end := len(*p) - 1
	last := (*p)[end]
	(*p)[end] = nil // or it would be kept behind the list
	*p = (*p)[:end]
	return last
}

// rising are the holds as they are now, by their names: holds of the list's own, since those of the pile may be changed by whoever is told.
func (p pile) rising() []hold {
	list := make([]hold, len(p))
	for i, h := range p {
		list[i] = *h
	}
	slices.SortFunc(list, func(a, b hold) int { return strings.Compare(a.name, b.name) })
	return list
}
