package mem

import (
	"math"
	"math/rand"
	"slices"
	"testing"

	"moraine/api"
)

// begun is a queue with nothing, and plain memtables.
func begun(t *testing.T, log int) (*Queue, *plainQueue) {
	t.Helper()
	q := NewQueue(log)
	if q == nil || q.Active() == nil {
		t.Fatal("no queue")
	}
	return q, &plainQueue{{log: log}}
}

// write adds to the active memtable of a queue and of plain ones.
func write(t *testing.T, q *Queue, l *plainQueue, seq uint64, op api.Op) {
	t.Helper()
	both(t, q.Active(), (*l)[0], seq, op, 1+int(seq%3))
}

func freeze(t *testing.T, q *Queue, l *plainQueue, log int) {
	t.Helper()
	if e, want := q.Freeze(log), l.freeze(log); e != want {
		t.Errorf("Freeze(%d): error %d, want %d", log, int(e), int(want))
	}
}

func drop(t *testing.T, q *Queue, l *plainQueue) {
	t.Helper()
	if e, want := q.Drop(), l.drop(); e != want {
		t.Errorf("Drop: error %d, want %d", int(e), int(want))
	}
}

func TestThirdExample(t *testing.T) {
	q, l := begun(t, 5)
	old := q.Active()
	if e := q.Freeze(5); e != api.ErrArg {
		t.Errorf("Freeze(5): error %d", int(e))
	}
	queueHolds(t, q, *l)
	freeze(t, q, l, 6)
	if q.Frozen() != 1 {
		t.Errorf("%d frozen", q.Frozen())
	}
	add(t, old, 1, put("a", "x"), 1, api.ErrDone)
	if m, ok := q.Oldest(); !ok || m != old || m.Log() != 5 {
		t.Errorf("Oldest: %v, %v", m, ok)
	}
	queueHolds(t, q, *l)
	if e := q.Drop(); e != api.OK {
		t.Errorf("Drop: error %d", int(e))
	}
	if e := q.Drop(); e != api.ErrArg {
		t.Errorf("Drop again: error %d", int(e))
	}
}

// P10.5: logs of any number, and such as do not rise, at which nothing changes.
func TestFreezeLogs(t *testing.T) {
	for _, log := range []int{math.MinInt, -7, -1, 0, 1, api.MaxNumber, math.MaxInt - 1, math.MaxInt} {
		q, l := begun(t, log)
		write(t, q, l, 1, put("a", "x"))
		active := q.Active()
		for _, low := range []int{log, math.MinInt, min(log, -8), min(log, 0)} {
			freeze(t, q, l, low)
			if q.Active() != active {
				t.Errorf("Freeze(%d) behind %d has changed the active one", low, log)
			}
			queueHolds(t, q, *l)
		}
		write(t, q, l, 2, put("b", "x"))
		if log == math.MaxInt {
			continue
		}
		freeze(t, q, l, log+1)
		freeze(t, q, l, log+1)
		if q.Active() == active || q.Active().Log() != log+1 {
			t.Errorf("Freeze(%d) behind %d has not changed the active one", log+1, log)
		}
		queueHolds(t, q, *l)
	}
}

// P10.5: none, one and more that are frozen, to the last one dropped, and on.
func TestFreezeAndDrop(t *testing.T) {
	q, l := begun(t, 1)
	drop(t, q, l)
	queueHolds(t, q, *l)
	log := 1
	for _, most := range []int{1, 2, 3, 7} {
		for q.Frozen() < most {
			write(t, q, l, uint64(log), put("k", "v"))
			log += most
			freeze(t, q, l, log)
			queueHolds(t, q, *l)
		}
		for q.Frozen() > 0 {
			oldest, _ := q.Oldest()
			drop(t, q, l)
			queueHolds(t, q, *l)
			add(t, oldest, 99, put("z", "v"), 1, api.ErrDone)
			if slices.Contains(q.Tables(), oldest) {
				t.Error("a dropped one is there")
			}
		}
		drop(t, q, l)
	}
}

// P10.5: a dropped memtable stays as it was, and frozen.
func TestDropped(t *testing.T) {
	q, l := begun(t, 1)
	write(t, q, l, 1, put("a", "x"))
	write(t, q, l, 2, span("a", "c"))
	old, p := q.Active(), (*l)[0]
	freeze(t, q, l, 2)
	holds(t, old, p)
	drop(t, q, l)
	holds(t, old, p)
	add(t, old, 3, put("b", "x"), 1, api.ErrDone)
	add(t, old, 3, span("b", "c"), 1, api.ErrDone)
	holds(t, old, p)
	gets(t, q.Get, "a", maxWord, api.Entry{}, false)
	queueHolds(t, q, *l)
}

// P10.5, and the chapter's ways: what the active memtable has, the queue has by it.
func TestQueueHasItsActive(t *testing.T) {
	q, l := begun(t, 4)
	if e := q.Add(1, put("a", "x"), 1); e != api.OK {
		t.Errorf("Add: error %d", int(e))
	}
	if e := q.Add(2, span("a", "c"), 1); e != api.OK {
		t.Errorf("Add: error %d", int(e))
	}
	(*l)[0].ops = []numbered{{1, put("a", "x")}, {2, span("a", "c")}}
	for range 2 {
		active := (*l)[0]
		low, high := q.Span()
		least, greatest := active.span()
		if q.Log() != active.log || q.Len() != len(active.ops) || q.Size() != active.size() || low != least || high != greatest {
			t.Errorf("Log %d, Len %d, Size %d, Span %d, %d", q.Log(), q.Len(), q.Size(), low, high)
		}
		sameEntries(t, "Entries", q.Entries(), active.entries())
		sameTombs(t, "Tombs", q.Tombs(), active.tombs())
		sameEntries(t, "its cursor", told(q.Cursor(), nil, nil), active.entries())
		queueHolds(t, q, *l)
		freeze(t, q, l, 9)
	}
}

// P10.6: the same key in several tables, an entry in one and a tomb in another, whichever is newer.
func TestQueueGet(t *testing.T) {
	ops := []numbered{{3, put("k", "v")}, {5, put("k", "w")}, {4, del("k")}, {3, span("j", "l")}, {4, span("k", "k\x00")}, {5, span("a", "z")}, {7, put("x", "")}}
	for _, oldest := range ops {
		for _, middle := range ops {
			for _, newest := range ops {
				q, l := begun(t, 1)
				write(t, q, l, oldest.seq, oldest.op)
				freeze(t, q, l, 2)
				write(t, q, l, middle.seq, middle.op)
				freeze(t, q, l, 3)
				write(t, q, l, newest.seq, newest.op)
				getsAs(t, q.Get, *l...)
				drop(t, q, l)
				getsAs(t, q.Get, *l...)
			}
		}
	}
}

// P10.6: numbers count, not which table is newer; of entries alike that of the first table.
func TestQueueGetOrder(t *testing.T) {
	q, l := begun(t, 1)
	write(t, q, l, 9, put("k", "oldest"))
	write(t, q, l, 5, put("same", "oldest"))
	write(t, q, l, 5, put("kind", "oldest"))
	write(t, q, l, 6, span("m", "n"))
	freeze(t, q, l, 2)
	write(t, q, l, 3, put("k", "middle"))
	write(t, q, l, 5, put("same", "middle"))
	write(t, q, l, 6, put("m", "middle"))
	freeze(t, q, l, 3)
	write(t, q, l, 4, put("k", "newest"))
	write(t, q, l, 5, put("same", "newest"))
	write(t, q, l, 5, del("kind"))
	write(t, q, l, 5, span("m", "n"))
	of := func(key string, seq uint64, value string) api.Entry {
		return api.Entry{Key: key, Seq: seq, Kind: api.KindPut, Value: value}
	}
	gets(t, q.Get, "k", 9, of("k", 9, "oldest"), true)
	gets(t, q.Get, "k", 8, of("k", 4, "newest"), true)
	gets(t, q.Get, "k", 3, of("k", 3, "middle"), true)
	gets(t, q.Get, "k", 2, api.Entry{}, false)
	gets(t, q.Get, "same", 5, of("same", 5, "newest"), true)
	gets(t, q.Get, "kind", 5, of("kind", 5, "oldest"), true)
	gets(t, q.Get, "m", 6, of("m", 6, "middle"), true)
	gets(t, q.Get, "m", 5, api.Entry{Key: "m", Seq: 5, Kind: api.KindRange}, true)
	gets(t, q.Get, "m\x00", 6, api.Entry{Key: "m\x00", Seq: 6, Kind: api.KindRange}, true)
	queueHolds(t, q, *l)
	freeze(t, q, l, 4)
	gets(t, q.Get, "same", 5, of("same", 5, "newest"), true)
	drop(t, q, l)
	gets(t, q.Get, "kind", 5, api.Entry{Key: "kind", Seq: 5}, true)
	gets(t, q.Get, "m\x00", 6, api.Entry{Key: "m\x00", Seq: 5, Kind: api.KindRange}, true)
	queueHolds(t, q, *l)
}

// P10.8: freezing changes no Get; neither do operations with greater numbers, in whichever table.
func TestFreezingChangesNoGet(t *testing.T) {
	q, l := begun(t, 1)
	for i, op := range []api.Op{put("a", "x"), span("a", "c"), put("b", "y"), del("a"), put("c", "z"), span("b", "d"), put("b", "w")} {
		seq := uint64(i + 1)
		ahead := *l
		l = &plainQueue{}
		for _, p := range ahead {
			*l = append(*l, &plain{log: p.log, done: p.done, ops: slices.Clone(p.ops)})
		}
		write(t, q, l, seq, op)
		for _, key := range askedKeys(*l) {
			for below := range seq {
				want, there := plainGet(ahead, key, below)
				gets(t, q.Get, key, below, want, there)
			}
		}
		whole := *l
		freeze(t, q, l, i+2)
		getsAs(t, q.Get, whole...)
	}
	queueHolds(t, q, *l)
}

// P10.5, P10.6: any calls.
func TestAnyQueue(t *testing.T) {
	chance := rand.New(rand.NewSource(105))
	for range 40 {
		log := chance.Intn(9) - 4
		q, l := begun(t, log)
		for range 40 {
			switch chance.Intn(8) {
			case 0, 1:
				log += chance.Intn(3) - chance.Intn(2)
				freeze(t, q, l, log)
				log = max(log, q.Active().Log())
			case 2:
				drop(t, q, l)
			default:
				write(t, q, l, uint64(chance.Intn(9)), anyOp(chance))
			}
		}
		queueHolds(t, q, *l)
	}
}

// Rule 1: a queue that is nil, and one that no call made.
func TestNoQueue(t *testing.T) {
	for _, q := range []*Queue{nil, {}, new(Queue), {Table: &Table{}}} {
		for range 2 {
			if e := q.Freeze(1); e != api.ErrNil {
				t.Errorf("Freeze: error %d", int(e))
			}
			if e := q.Freeze(math.MinInt); e != api.ErrNil {
				t.Errorf("Freeze: error %d", int(e))
			}
			if e := q.Drop(); e != api.ErrNil {
				t.Errorf("Drop: error %d", int(e))
			}
			if m, ok := q.Oldest(); m != nil || ok {
				t.Errorf("Oldest: %v, %v", m, ok)
			}
			if q.Active() != nil || q.Frozen() != 0 || len(q.Tables()) != 0 {
				t.Errorf("Active %v, %d frozen, %d tables", q.Active(), q.Frozen(), len(q.Tables()))
			}
			gets(t, q.Get, "a", maxWord, api.Entry{}, false)
		}
	}
	// A plain queue has its methods of no memtable.
	plainOne := &Queue{}
	if e := plainOne.Add(1, put("a", "x"), 1); e != api.ErrNil || plainOne.Len() != 0 || plainOne.Cursor() != nil {
		t.Errorf("Add: error %d", int(e))
	}
}

// Rule 4: the list of tables is memory of its own, its tables are the objects themselves.
func TestTablesAreNewMemory(t *testing.T) {
	q, l := begun(t, 1)
	for log := 2; log < 6; log++ {
		write(t, q, l, uint64(log), put("k", "v"))
		freeze(t, q, l, log)
	}
	told, other := q.Tables(), q.Tables()
	want := slices.Clone(told)
	if !slices.Equal(told, other) {
		t.Error("other objects")
	}
	_ = append(told[:len(told):cap(told)], New(7))
	clear(told)
	if !slices.Equal(other, want) || !slices.Equal(q.Tables(), want) {
		t.Error("one list's memory is another's")
	}
	queueHolds(t, q, *l)
	freeze(t, q, l, 9)
	drop(t, q, l)
	if !slices.Equal(other, want) {
		t.Error("what was told ahead has changed")
	}
	// What is put into a told one is in the queue.
	both(t, q.Tables()[0], (*l)[0], 1, put("k", "w"), 1)
	queueHolds(t, q, *l)
}

// Two queues have nothing in common.
func TestQueuesApart(t *testing.T) {
	one, first := begun(t, 1)
	other, second := begun(t, 1)
	write(t, one, first, 1, put("a", "x"))
	freeze(t, one, first, 2)
	queueHolds(t, other, *second)
	write(t, other, second, 1, put("a", "y"))
	queueHolds(t, one, *first)
	queueHolds(t, other, *second)
}
