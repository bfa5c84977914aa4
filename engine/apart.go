package engine

import (
	"strings"

	"keepsake/api"
)

// What is kept goes out as a copy in memory of its own, texts included. A list without anything in it is nil.

func paneApart(p api.Pane) api.Pane {
	p.Key = strings.Clone(p.Key)
	return p
}

func toldApart(l []api.Told) []api.Told {
	own := append([]api.Told(nil), l...)
	for i := range own {
		own[i].Pane = paneApart(own[i].Pane)
	}
	return own
}

func keysApart(l []api.KeyState) []api.KeyState {
	own := append([]api.KeyState(nil), l...)
	for i, k := range own {
		own[i].Key, own[i].Windows = strings.Clone(k.Key), append([]api.Win(nil), k.Windows...)
	}
	return own
}
