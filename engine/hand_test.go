package engine

import (
	"testing"

	"keepsake/api"
)

// The list of what a worker has to do is cut at its front: what is done is not kept by it, and what a copy has to do stays.
func TestCut(t *testing.T) {
	e, _ := New(api.Config{Groups: 1, Sources: 1, Kind: api.Tumbling, Size: 10}, 1)
	e.Feed(api.Item{Kind: api.ItemEvent, Key: "a"}, api.Item{Kind: api.ItemMark}, api.Item{Kind: api.ItemMark}, api.Item{Kind: api.ItemSave})
	other := e.Copy()
	whole := e.hands[0].todo
	kinds := []api.MsgKind{api.MsgEvent, api.MsgMark, 0, api.MsgSave}
	for n, kind := range kinds {
		if m := whole[n]; m == nil || m.Kind != kind {
			t.Fatalf("at the place %d stands %+v", n, m)
		}
		e.Step(0)
		if whole[n] != nil || len(e.hands[0].todo) != len(kinds)-n-1 {
			t.Errorf("behind %d steps %+v is kept, %d are to do", n+1, whole[n], len(e.hands[0].todo))
		}
		if m := other.hands[0].todo[n]; m == nil || m.Kind != kind {
			t.Errorf("behind %d steps a copy has %+v to do", n+1, m)
		}
	}
}
