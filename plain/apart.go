package plain

import (
	"slices"
	"strings"

	"keepsake/api"
)

// What comes in is kept, and what is kept goes out, as a copy in memory of its own, texts included. A list without anything in it is nil, wherever it comes from.

func panesApart(l []api.Pane) []api.Pane {
	own := append([]api.Pane(nil), l...)
	for i := range own {
		own[i].Key = strings.Clone(own[i].Key)
	}
	return own
}

func keyApart(k api.KeyState) api.KeyState {
	k.Key = strings.Clone(k.Key)
	k.Windows = append([]api.Win(nil), k.Windows...)
	return k
}

func stateApart(s api.State) api.State {
	s.Marks = slices.Clone(s.Marks)
	var keys []api.KeyState
	for _, k := range s.Keys {
		keys = append(keys, keyApart(k))
	}
	s.Keys = keys
	return s
}
