package panes

import (
	"cmp"
	"strings"

	"keepsake/api"
	"keepsake/store"
)

// Compare orders two panes.
func Compare(a, b api.Pane) int {
	if a == b {
		return 0
	}
	return cmp.Or(
		compareWindows(a, b),
		cmp.Compare(a.Kind, b.Kind),
		cmp.Compare(a.Nth, b.Nth),
		cmp.Compare(a.Count, b.Count),
		cmp.Compare(a.Sum, b.Sum),
		cmp.Compare(a.Min, b.Min),
		cmp.Compare(a.Max, b.Max),
	)
}

// compareWindows orders two panes by what they are told of alone: their keys and windows.
func compareWindows(a, b api.Pane) int {
	return cmp.Or(
		cmp.Compare(a.Key, b.Key),
		cmp.Compare(a.Start, b.Start),
		cmp.Compare(a.End, b.End),
	)
}

// byKeys are the panes of each key, in the list's order.
func byKeys(list []api.Pane) *store.Map[string, []api.Pane] {
	m := store.Of[string, []api.Pane]()
	for _, p := range list {
		l, _ := m.Get(p.Key)
		m.Put(p.Key, append(l, p))
	}
	return m
}

// byWindows has for each key and window its last pane as the value; which pane the map has as its key can't be told from the others of the window.
func byWindows(list []api.Pane) *store.Map[api.Pane, api.Pane] {
	m, _ := store.New[api.Pane, api.Pane](compareWindows)
	for _, p := range list {
		m.Put(p, p)
	}
	return m
}

// apart is a list of the package's own, whose keys share no memory with those that were handed in.
func apart(list []api.Pane) []api.Pane {
	for i := range list {
		list[i].Key = strings.Clone(list[i].Key)
	}
	return list
}
