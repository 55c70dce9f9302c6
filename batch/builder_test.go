package batch

import (
	"math/rand"
	"testing"

	"moraine/api"
)

// expectBuilt: a Builder has just these operations. P4.6, P4.9.
func expectBuilt(t *testing.T, g *Builder, ops []api.Op) {
	t.Helper()
	if g.Len() != len(ops) || g.Size() != len(plainBatch(0, 0, ops)) {
		t.Errorf("Len %d, Size %d; want %d, %d", g.Len(), g.Size(), len(ops), len(plainBatch(0, 0, ops)))
	}
	for _, seq := range []uint64{0, 1, api.MaxSeq - 1, api.MaxSeq, api.MaxSeq + 1, maxWord} {
		b, e := g.Bytes(seq)
		want, wantE := plainEncode(seq, ops)
		expectBytes(t, b, e, want, wantE)
		again, e := Encode(seq, ops)
		expectBytes(t, again, e, want, wantE)
	}
}

// add hands an operation to the call of its kind.
func add(g *Builder, o api.Op) api.Errno {
	switch o.Kind {
	case api.KindPut:
		return g.Put(o.Key, o.Value)
	case api.KindDelete:
		return g.Delete(o.Key)
	}
	return g.Range(o.Key, o.Value)
}

func mustAdd(t *testing.T, g *Builder, ops []api.Op) {
	t.Helper()
	for _, o := range ops {
		if e := add(g, o); e != api.OK {
			t.Fatalf("error %d", int(e))
		}
	}
}

// P4.6.
func TestBuilder(t *testing.T) {
	g := New()
	expectBuilt(t, g, nil)
	expectErrno(t, g.Put("k", "v"), api.OK)
	expectBuilt(t, g, []api.Op{put("k", "v")})
	expectErrno(t, g.Delete("d"), api.OK)
	b, e := g.Bytes(1)
	expectBytes(t, b, e, []byte(twenty), api.OK)
	expectErrno(t, g.Range("a", "b"), api.OK)
	expectErrno(t, g.Put("k", ""), api.OK)
	expectErrno(t, g.Put("k", "v"), api.OK)
	expectBuilt(t, g, []api.Op{put("k", "v"), del("d"), span("a", "b"), put("k", ""), put("k", "v")})
	g.Clear()
	expectBuilt(t, g, nil)
	expectErrno(t, g.Delete("e"), api.OK)
	expectBuilt(t, g, []api.Op{del("e")})
	g.Clear()
	g.Clear()
	expectBuilt(t, g, nil)
}

// P4.6: what may not be, and behind it all goes on.
func TestBuilderRefuses(t *testing.T) {
	g := New()
	key := of(api.MaxKey)
	refuse := func() {
		t.Helper()
		for _, e := range []api.Errno{
			g.Put("", "v"), g.Put(key+"k", ""), g.Put("k", of(api.MaxValue+1)), g.Delete(""), g.Delete(key + "k"),
			g.Range("", "b"), g.Range("a", ""), g.Range("b", "b"), g.Range("b", "a"), g.Range("", ""), g.Range("a", key+"k"), g.Range(key+"k", "l"),
		} {
			expectErrno(t, e, api.ErrOp)
		}
	}
	refuse()
	expectBuilt(t, g, nil)
	ops := []api.Op{put(key, of(api.MaxValue)), del(key), span(key[1:], key)}
	mustAdd(t, g, ops)
	refuse()
	expectBuilt(t, g, ops)
	expectErrno(t, g.Put("k", "v"), api.OK)
	expectBuilt(t, g, append(ops, put("k", "v")))
}

// P4.6: MaxOps operations, and one more.
func TestBuilderOfMaxOps(t *testing.T) {
	g := New()
	mustAdd(t, g, manyOps(api.MaxOps))
	for range 2 {
		expectErrno(t, g.Delete("d"), api.ErrBig)
		expectErrno(t, g.Put("k", "v"), api.ErrBig)
		expectErrno(t, g.Range("a", "b"), api.ErrBig)
		// An operation that may not be comes first.
		expectErrno(t, g.Delete(""), api.ErrOp)
		expectErrno(t, g.Put("", ""), api.ErrOp)
		expectErrno(t, g.Range("b", "a"), api.ErrOp)
	}
	expectBuilt(t, g, manyOps(api.MaxOps))
	g.Clear()
	mustAdd(t, g, manyOps(3))
	expectBuilt(t, g, manyOps(3))
}

// P4.6: MaxBatch bytes, and one more.
func TestBuilderOfMaxBatch(t *testing.T) {
	g := New()
	most, more := fullOps(0), fullOps(1)
	mustAdd(t, g, most[:15])
	expectErrno(t, add(g, more[15]), api.ErrBig)
	expectBuilt(t, g, most[:15])
	mustAdd(t, g, most[15:])
	if g.Size() != api.MaxBatch {
		t.Errorf("Size = %d", g.Size())
	}
	expectErrno(t, g.Delete("d"), api.ErrBig)
	expectErrno(t, g.Range("a", "b"), api.ErrBig)
	expectErrno(t, g.Delete(""), api.ErrOp)
	expectBuilt(t, g, most)
	g.Clear()
	expectBuilt(t, g, nil)
	mustAdd(t, g, fullOps(-3))
	expectErrno(t, g.Delete("dd"), api.ErrBig)
	expectErrno(t, g.Delete("d"), api.OK)
	expectBuilt(t, g, append(fullOps(-3), del("d")))
}

// P4.9: any operations, those that may not be among them.
func TestBuilderOfAny(t *testing.T) {
	chance := rand.New(rand.NewSource(5))
	for range 300 {
		g := New()
		var ops []api.Op
		for range chance.Intn(6) {
			o := someOp(chance)
			if o.Kind == api.KindDelete {
				o.Value = ""
			} else if o.Kind != api.KindPut {
				o.Kind = api.KindRange
			}
			if plainMay(o) {
				expectErrno(t, add(g, o), api.OK)
				ops = append(ops, o)
			} else {
				expectErrno(t, add(g, o), api.ErrOp)
			}
		}
		expectBuilt(t, g, ops)
	}
}

// P4.6 and rule 1: a nil Builder, and one that New did not give.
func TestBuilderOfNone(t *testing.T) {
	for _, g := range []*Builder{nil, {}} {
		for range 2 {
			expectErrno(t, g.Put("k", "v"), api.ErrNil)
			expectErrno(t, g.Put("", ""), api.ErrNil)
			expectErrno(t, g.Delete("d"), api.ErrNil)
			expectErrno(t, g.Delete(""), api.ErrNil)
			expectErrno(t, g.Range("a", "b"), api.ErrNil)
			expectErrno(t, g.Range("b", "a"), api.ErrNil)
			b, e := g.Bytes(maxWord)
			expectBytes(t, b, e, nil, api.ErrNil)
			b, e = g.Bytes(1)
			expectBytes(t, b, e, nil, api.ErrNil)
			if g.Len() != 0 || g.Size() != 0 {
				t.Errorf("Len %d, Size %d", g.Len(), g.Size())
			}
			g.Clear()
		}
	}
}

// Rule 4: what is handed out is new each time, and two Builders have nothing in common.
func TestBuilderSharesNothing(t *testing.T) {
	g, other := New(), New()
	ops := []api.Op{put("k", "v"), del("d")}
	mustAdd(t, g, ops)
	mustAdd(t, other, manyOps(2))
	b, _ := g.Bytes(1)
	again, _ := g.Bytes(1)
	spoil(b)
	expectBytes(t, again, api.OK, []byte(twenty), api.OK)
	expectBuilt(t, g, ops)
	expectBuilt(t, other, manyOps(2))
	g.Clear()
	mustAdd(t, g, manyOps(1))
	expectBytes(t, again, api.OK, []byte(twenty), api.OK)
	expectBuilt(t, other, manyOps(2))
}
