package route

import (
	"strings"

	"keepsake/api"
	"keepsake/clock"
	"keepsake/groups"
)

// known is what a router knows of the job: which one it is, how many workers share it, how far its sources and its items have come.
type known struct {
	job     api.Config
	workers int
	clock   *clock.Clock // the sources' marks
	seq     int64        // the next item's number
}

// take takes an item that may be.
func (k *known) take(it api.Item) []api.Sent {
	m := api.Msg{Kind: api.MsgSave, Seq: k.seq}
	k.seq++
	switch it.Kind {
	case api.ItemEvent:
		m.Kind, m.Key, m.Time, m.Value = api.MsgEvent, strings.Clone(it.Key), it.Time, it.Value
		return k.toOwner(m)
	case api.ItemMark:
		ahead, behind, _ := k.clock.Set(it.Source, it.Time)
		if ahead == behind {
			break // to the workers nothing has happened
		}
		m.Kind, m.Time = api.MsgMark, behind
		fallthrough
	case api.ItemSave:
		return k.toAll(m)
	}
	return nil
}

// toOwner sends an event to the worker of its key's group.
func (k *known) toOwner(m api.Msg) []api.Sent {
	worker, _ := groups.Of(m.Key, k.workers, k.job.Groups)
	return []api.Sent{{Worker: worker, Msg: m}}
}

// toAll sends a message to each worker.
func (k *known) toAll(m api.Msg) []api.Sent {
	sent := make([]api.Sent, k.workers)
	for worker := range sent {
		sent[worker] = api.Sent{Worker: worker, Msg: m}
	}
	return sent
}

// again is what another router knows that stands where this one does.
func (k *known) again() *known {
	other := *k
	other.clock = k.clock.Copy()
	return &other
}
