package worker_test

import (
	"slices"
	"strings"
	"testing"

	"keepsake/api"
)

// wrongMsgs are messages of each of which one thing may not be.
func wrongMsgs() []api.Msg {
	l := []api.Msg{
		{}, {Kind: -1}, {Kind: 4}, {Kind: 9}, {Kind: least}, {Kind: greatest}, {Kind: 4, Key: "a", Time: 3, Value: 1},
		{Kind: api.MsgEvent, Key: "a", Seq: -1, Time: 50}, {Kind: api.MsgMark, Seq: -1, Time: 50}, {Kind: api.MsgSave, Seq: -1},
		{Kind: api.MsgEvent, Key: "a", Seq: least}, {Kind: api.MsgMark, Seq: least, Time: 50}, {Kind: api.MsgSave, Seq: least},
		event(strings.Repeat("x", 257), 50, 1), event(strings.Repeat("x", 70000), 50, 1),
		{Kind: api.MsgMark, Time: 50, Key: "a"}, {Kind: api.MsgMark, Time: 50, Value: 1}, {Kind: api.MsgMark, Time: 50, Value: -1}, {Kind: api.MsgMark, Time: 50, Key: "\x00"},
		{Kind: api.MsgSave, Key: "a"}, {Kind: api.MsgSave, Time: 1}, {Kind: api.MsgSave, Time: -1}, {Kind: api.MsgSave, Value: 1}, {Kind: api.MsgSave, Value: least},
	}
	for _, n := range []int64{minTime - 1, maxTime + 1, least, greatest} {
		l = append(l, event("a", n, 1), mark(n))
	}
	return l
}

// P16.3: a message that may not be, with each field that its kind does not name.
func TestWrongMessages(t *testing.T) {
	for _, c := range kinds() {
		for n := range 2 {
			w := newTwin(t, c, n, 2, 40)
			w.load(t, key([]string{"a", "c"}[n], 2, one(40, 50, 43)))
			for _, x := range wrongMsgs() {
				w.refuses(t, x, api.ErrItem)
			}
		}
	}
}

// P16.3: which error comes first: a message that may not be is that, whosever its key is, and wherever its mark.
func TestErrorsInTheirOrder(t *testing.T) {
	w := newTwin(t, example(), 0, 2, 10)
	w.refuses(t, event("c", 3, 1), api.ErrOther)
	w.refuses(t, event("c", maxTime+1, 1), api.ErrItem)
	w.refuses(t, api.Msg{Kind: api.MsgEvent, Key: "d", Seq: -1}, api.ErrItem)
	w.refuses(t, event(strings.Repeat("x", 257), 3, 1), api.ErrItem)
	w.refuses(t, mark(10), api.ErrFalls)
	w.refuses(t, mark(minTime), api.ErrFalls)
	w.refuses(t, mark(minTime-1), api.ErrItem)
	w.refuses(t, api.Msg{Kind: api.MsgMark, Time: 9, Value: 1}, api.ErrItem)
	w.refuses(t, api.Msg{Kind: api.MsgMark, Time: 10, Key: "c"}, api.ErrItem)
	w.refuses(t, api.Msg{Kind: api.MsgSave, Key: "c"}, api.ErrItem)
}

// P16.3: an event goes to one of its own keys alone: those of its stretch, whose groups chapter 4 tells.
func TestOwnKeys(t *testing.T) {
	owners := [][4]int{1: {0, 0, 0, 0}, 2: {0, 0, 1, 1}, 3: {0, 1, 2, 2}, 4: {0, 1, 2, 3}}
	for _, c := range kinds() {
		for of := 1; of <= 4; of++ {
			for n := range of {
				w := newTwin(t, c, n, of, 0)
				for group, name := range []string{"a", "b", "c", "d"} {
					want := api.ErrOther
					if owners[of][group] == n {
						want = api.OK
					}
					was := w.w.Len()
					if l, e := w.w.Take(event(name, 3, 1)); l != nil || e != want || w.w.Len()-was != map[api.Errno]int{api.OK: 1}[want] {
						t.Errorf("%d of %d: Take of %s is %v, %d, want %d; Len is %d", n, of, name, l, e, want, w.w.Len())
					}
				}
			}
		}
	}
	w := newTwin(t, api.Config{Groups: 300, Sources: 1, Kind: api.Session, Gap: 7}, 155, 300, 0)
	taken := 0
	for i := range 3000 {
		name := string([]byte{byte(i), byte(i >> 8)})
		was := w.w.Len()
		w.do(t, event(name, 3, 1))
		taken += w.w.Len() - was
	}
	if taken < 3 || taken > 30 {
		t.Errorf("of 3000 keys %d are the worker's, who has one group of 300", taken)
	}
	w.same(t)
}

// P16.3: events, at the bounds of times, values, keys and numbers.
func TestEvents(t *testing.T) {
	for _, c := range kinds() {
		for _, at := range []int64{minTime, 0, maxTime} {
			w := alone(t, c, at)
			for _, name := range []string{"", "\x00", "\xff\xfe", "a", "a ", "ab", "ä", strings.Repeat("x", 255), strings.Repeat("x", 256), strings.Repeat("\x00", 256)} {
				for _, x := range []int64{minTime, -7, 0, 3, maxTime} {
					w.do(t, event(name, x, least), api.Msg{Kind: api.MsgEvent, Seq: greatest, Key: name, Time: x, Value: greatest})
				}
				w.same(t)
			}
			w.do(t, save(), api.Msg{Kind: api.MsgMark, Seq: greatest, Time: maxTime}, api.Msg{Kind: api.MsgSave, Seq: greatest})
			w.same(t)
		}
	}
}

// P16.3: a key that the worker does not have begins without windows; one that was dropped stays.
func TestEventOfNewKey(t *testing.T) {
	w := alone(t, example(), 20)
	w.wants(t, msgs(event("a", 23, 1)))
	w.wants(t, msgs(event("b", 9, 1), event("b", 4, 1))) // too late
	w.wants(t, msgs(event("c", 12, 5)), pane("c", 10, 20, api.Late, 0, 1, 5, 5, 5))
	want := keys(key("a", 0, one(20, 30, 23)), key("b", 2), key("c", 0, win(10, 20, 1, 5, 5, 5, 0, 1, 20)))
	if got := w.w.Keys(); !sameKeys(got, want) {
		t.Errorf("Keys are %+v, want %+v", got, want)
	}
	w.stands(t, 20, 20, 30, 3)
	w.wants(t, msgs(mark(25)))
	w.stands(t, 25, 23, 30, 2)
}

// P16.3: early panes, and what is discarded.
func TestEventPanes(t *testing.T) {
	w := alone(t, with(example(), 2, true), 0)
	w.wants(t, msgs(event("a", 3, 1), event("a", 4, 2)), pane("a", 0, 10, api.Early, 0, 2, 3, 1, 2))
	w.wants(t, msgs(mark(10)), pane("a", 0, 10, api.OnTime, 1, 0, 0, 0, 0))
	w = alone(t, with(sliding(), 1, false), 12)
	w.wants(t, msgs(event("a", 12, 5)), pane("a", 5, 15, api.Early, 0, 1, 5, 5, 5), pane("a", 10, 20, api.Early, 0, 1, 5, 5, 5))
	w.wants(t, msgs(event("a", 7, 3)), pane("a", 0, 10, api.Late, 0, 1, 3, 3, 3), pane("a", 5, 15, api.Early, 1, 2, 8, 3, 5))
	w.stands(t, 12, 12, 15, 1)
}

// P16.3: a mark at, below and above its mark, at the ends of time.
func TestMarks(t *testing.T) {
	w := alone(t, example(), minTime)
	w.refuses(t, mark(minTime), api.ErrFalls)
	w.wants(t, msgs(mark(minTime+1)))
	w.stands(t, minTime+1, minTime+1, 0, 0)
	low := int64(minTime - minTime%10) // a multiple of 10 behind MinTime: windows begin there, and 10 ahead of it
	w.wants(t, msgs(event("a", low-1, 1), event("b", low, 1)))
	w.stands(t, minTime+1, minTime+1, low, 2)
	w.refuses(t, mark(minTime), api.ErrFalls)
	w.refuses(t, mark(minTime+1), api.ErrFalls)
	w.wants(t, msgs(mark(low-1)))
	w.wants(t, msgs(mark(low)), onTime("a", low-10, low))
	w.refuses(t, mark(low), api.ErrFalls)
	w.refuses(t, mark(low-1), api.ErrFalls)
	w.wants(t, msgs(mark(maxTime-1)), onTime("b", low, low+10))
	w.wants(t, msgs(mark(maxTime)))
	w.refuses(t, mark(maxTime), api.ErrFalls)
	w.refuses(t, mark(maxTime-1), api.ErrFalls)
	w.refuses(t, mark(0), api.ErrFalls)
	w.stands(t, maxTime, maxTime, 0, 0)
}

// P16.3: panes of several keys at one End come by their keys, of several Ends by these.
func TestPanesOfSeveralKeys(t *testing.T) {
	w := alone(t, example(), 0)
	w.do(t, event("d", 3, 1), event("a", 13, 1), event("c", 3, 1), event("b", 13, 1), event("b", 23, 1), event("", 3, 1), event("a", 3, 1), event("ab", 13, 1))
	w.wants(t, msgs(mark(20)), onTime("", 0, 10), onTime("a", 0, 10), onTime("c", 0, 10), onTime("d", 0, 10), onTime("a", 10, 20), onTime("ab", 10, 20), onTime("b", 10, 20))
	w.stands(t, 20, 20, 30, 3)
}

// P16.3: panes of several windows of one key at one End come by their Starts, and ahead of the next key's.
func TestPanesOfSeveralWindows(t *testing.T) {
	w := alone(t, example(), 0)
	w.load(t, key("a", 0, one(0, 10, 0), one(1, 9, 1), one(3, 10, 3), one(5, 10, 5), one(6, 12, 6)), key("b", 0, one(2, 10, 2), one(4, 9, 4), one(6, 10, 6)))
	w.stands(t, 0, 0, 9, 2)
	w.wants(t, msgs(mark(11)), onTime("a", 1, 9), onTime("b", 4, 9), onTime("a", 0, 10), onTime("a", 3, 10), onTime("a", 5, 10), onTime("b", 2, 10), onTime("b", 6, 10))
	w.stands(t, 11, 6, 12, 2)
	w.wants(t, msgs(mark(15)), onTime("a", 6, 12))
	w.stands(t, 15, 15, 0, 1)
	w.wants(t, msgs(mark(17)))
	w.stands(t, 17, 17, 0, 0)
}

// P16.3: a mark far ahead does at once what many would.
func TestMarkFarAhead(t *testing.T) {
	for _, c := range []api.Config{example(), late(example(), 0), sliding(), late(session(), 0)} {
		l := msgs(event("a", 3, 1), event("b", 13, 1), event("b", 17, 2), event("a", 44, 3), event("c", -4, 1), event("d", 90, 1))
		far, near := alone(t, c, minTime), alone(t, c, minTime)
		far.do(t, l...)
		near.do(t, l...)
		var told []api.Pane
		for at := int64(-20); at <= 500; at++ {
			told = append(told, near.do(t, mark(at))...)
			near.same(t)
		}
		if got := far.do(t, mark(500)); !slices.Equal(got, told) || len(got) < 5 {
			t.Errorf("%+v: at once %v are told, one by one %v", c, got, told)
		}
		far.same(t)
		far.stands(t, 500, 500, 0, 0)
	}
}

// P16.3: windows stay for late events till they are expired, not longer; a Late of 0 takes them away at once.
func TestWindowsGo(t *testing.T) {
	for _, n := range []int64{0, 1, 5, maxSpan} {
		w := alone(t, late(example(), n), 0)
		w.do(t, event("a", 3, 1), mark(9))
		w.wants(t, msgs(mark(10)), onTime("a", 0, 10))
		if n > 0 {
			w.stands(t, 10, 10, 0, 1)
			w.wants(t, msgs(mark(10+n)))
		}
		w.stands(t, 10+n, 10+n, 0, 0)
		w.wants(t, msgs(event("a", 3, 1)))
		w.stands(t, 10+n, 10+n, 0, 1)
		w.wants(t, msgs(mark(maxTime)))
		w.stands(t, maxTime, maxTime, 0, 1)
	}
}

// P16.3: sessions grow together: what each of them waited for is nothing any more.
func TestSessionsGrow(t *testing.T) {
	c := late(session(), 5)
	w := alone(t, c, 0)
	w.wants(t, msgs(event("a", 3, 1), event("a", 17, 1), event("b", 5, 1)))
	w.stands(t, 0, 0, 13, 2)
	w.wants(t, msgs(event("a", 8, 1)))
	w.stands(t, 0, 0, 15, 2)
	w.wants(t, msgs(mark(13)))
	w.stands(t, 13, 3, 15, 2)
	w.wants(t, msgs(mark(26)), onTime("b", 5, 15))
	w.stands(t, 26, 3, 27, 1)
	w.wants(t, msgs(event("a", 26, 1)))
	w.stands(t, 26, 3, 36, 1)
	w.wants(t, msgs(mark(36)), pane("a", 3, 36, api.OnTime, 0, 4, 4, 1, 1))
	w.stands(t, 36, 36, 0, 1)
	// One that is due grows, and waits for its new end.
	w.wants(t, msgs(event("a", 35, 1)))
	w.stands(t, 36, 36, 45, 1)
	w.wants(t, msgs(mark(41)))
	w.stands(t, 41, 36, 45, 1)
	w.wants(t, msgs(mark(45)), pane("a", 3, 45, api.OnTime, 1, 5, 5, 1, 1))
	w.wants(t, msgs(mark(49)))
	w.stands(t, 49, 49, 0, 1)
	w.wants(t, msgs(mark(50)))
	w.stands(t, 50, 50, 0, 0)
}

// P16.3: a save does nothing, whatever number it has.
func TestSaves(t *testing.T) {
	w := alone(t, sliding(), 0)
	w.do(t, event("a", 3, 1), event("b", 7, 1))
	for _, seq := range []int64{0, 1, 1 << 62, greatest} {
		w.wants(t, msgs(api.Msg{Kind: api.MsgSave, Seq: seq}))
		w.stands(t, 0, 0, 5, 2)
	}
}

// P16.4: what windows hold back, and when the next is due: of those that are not due alone, those that never are due included.
func TestOutwardAndNext(t *testing.T) {
	w := alone(t, example(), 0)
	w.stands(t, 0, 0, 0, 0)
	w.wants(t, msgs(event("a", -3, 1)), pane("a", -10, 0, api.Late, 0, 1, 1, 1, 1))
	w.stands(t, 0, 0, 0, 1)
	w.wants(t, msgs(event("a", 7, 1), event("b", 4, 1), event("b", 13, 1)))
	w.stands(t, 0, 0, 10, 2)
	w.wants(t, msgs(mark(9)))
	w.stands(t, 9, 4, 10, 2)
	w.wants(t, msgs(event("b", 2, 1), event("a", 2, 1)))
	w.stands(t, 9, 4, 10, 2) // an event behind the mark holds nothing back that was not held
	w.do(t, mark(10))
	w.stands(t, 10, 10, 20, 2)
	w.wants(t, msgs(mark(19)))
	w.stands(t, 19, 13, 20, 1)

	w = alone(t, example(), maxTime-1)
	w.wants(t, msgs(event("a", maxTime, 1)))
	end := int64(maxTime - maxTime%10 + 10)
	w.stands(t, maxTime-1, maxTime-1, end, 1)
	w.wants(t, msgs(mark(maxTime)))
	w.stands(t, maxTime, maxTime, end, 1)

	// Holds that are no times, and such as are behind the mark.
	w = alone(t, example(), 0)
	w.load(t, key("a", 0, one(0, 10, greatest), one(1, 11, 5)))
	w.stands(t, 0, 0, 10, 1)
	w.load(t, key("a", 0, one(0, 10, greatest), one(1, 11, least), one(1, 12, -3)))
	w.stands(t, 0, least, 10, 1)
	w.wants(t, msgs(mark(11)), onTime("a", 0, 10), onTime("a", 1, 11))
	w.stands(t, 11, -3, 12, 1)
}
