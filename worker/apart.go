package worker

import (
	"strings"

	"keepsake/api"
)

// panesApart tells panes with keys in memory of their own; the list is one that layer 12 has just made, and nobody else's.
func panesApart(l []api.Pane) []api.Pane {
	for i := range l {
		l[i].Key = strings.Clone(l[i].Key)
	}
	return l
}

// keyApart is a key's state in memory of its own, as it comes in and goes out. A list without windows is nil, wherever it comes from.
func keyApart(k api.KeyState) api.KeyState {
	k.Key = strings.Clone(k.Key)
	k.Windows = append([]api.Win(nil), k.Windows...)
	return k
}
