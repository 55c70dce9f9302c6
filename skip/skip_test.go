package skip

import (
	"math"
	"math/bits"
	"math/rand"
	"slices"
	"strconv"
	"strings"
	"testing"

	"moraine/api"
	"moraine/ikey"
)

func put(key string, seq uint64) api.IKey {
	return api.IKey{Key: key, Seq: seq, Kind: api.KindPut}
}

// made is an empty list.
func made(t *testing.T, most int) *List[string] {
	t.Helper()
	l, e := New[string](most)
	if l == nil || e != api.OK {
		t.Fatalf("New(%d) = %v, error %d", most, l, int(e))
	}
	return l
}

// expectInsert holds Insert against an error.
func expectInsert(t *testing.T, l *List[string], k api.IKey, v string, height int, want api.Errno) {
	t.Helper()
	if e := l.Insert(k, v, height); e != want {
		t.Errorf("Insert(%v, .., %d): error %d, want %d", k, height, int(e), int(want))
	}
}

// both inserts into a list and a plain one.
func both(t *testing.T, l *List[string], p *plain, k api.IKey, v string, height int) {
	t.Helper()
	expectInsert(t, l, k, v, height, p.insert(k, v, height))
}

// example is the chapter's list, and a plain one with the same.
func example(t *testing.T) (*List[string], *plain) {
	t.Helper()
	l, p := made(t, 3), &plain{most: 3}
	both(t, l, p, put("b", 1), "of b", 2)
	both(t, l, p, put("a", 1), "of a", 1)
	both(t, l, p, put("c", 1), "of c", 3)
	return l, p
}

// probes are keys below, between, at and behind those of the tests, and such as are none.
func probes() []api.IKey {
	l := []api.IKey{{}, {Key: "", Seq: 1, Kind: api.KindPut}, {Key: "\xff\xff"}, {Key: strings.Repeat("b", api.MaxKey+1), Seq: 1, Kind: 1}}
	for _, key := range []string{"\x00", "a", "a\x00", "aa", "b", "ba", "c", "c\xff", "d", "\xff"} {
		for _, seq := range []uint64{0, 1, 2, api.MaxSeq, api.MaxSeq + 1, math.MaxUint64} {
			for _, kind := range []int{api.KindDelete, api.KindPut, api.KindRange, api.KindSeek, -1, 256, math.MaxInt, math.MinInt} {
				l = append(l, api.IKey{Key: key, Seq: seq, Kind: kind})
			}
		}
	}
	return l
}

func TestFirstExample(t *testing.T) {
	l, p := example(t)
	text := ""
	for n, k := range l.All() {
		text += strconv.Itoa(n) + k.Key
	}
	if text != "2a1b3c" || l.Height() != 3 || l.Len() != 3 {
		t.Errorf("%s, Height %d, Len %d", text, l.Height(), l.Len())
	}
	for level, want := range [][]int{{2, 1, 3}, {1, 3}, {3}, nil} {
		expectNumbers(t, "Links", l.Links(level), want)
	}
	expectSame(t, l, p, probes())
}

func TestSecondExample(t *testing.T) {
	l, _ := example(t)
	if l.Seek(put("b", 1)) != 1 || l.Before(put("b", 1)) != 2 || l.Seek(put("b", 2)) != 1 {
		t.Error("sought")
	}
	if l.Next(2) != 1 || l.Next(3) != 0 || l.Prev(2) != 0 {
		t.Error("beside")
	}
	expectNumbers(t, "Trail", l.Trail(put("c", 1)), []int{0, 1, 1})
}

func TestThirdExample(t *testing.T) {
	l, p := example(t)
	expectInsert(t, l, put("b", 1), "other", 2, api.ErrThere)
	expectInsert(t, l, put("d", 1), "other", 0, api.ErrArg)
	expectInsert(t, l, put("d", 1), "other", 13, api.ErrArg)
	expectSame(t, l, p, probes())
	one := made(t, 1)
	expectInsert(t, one, put("a", 1), "v", 1, api.OK)
	expectInsert(t, one, put("b", 1), "v", 1, api.ErrFull)
	expectSame(t, one, &plain{1, []plainNode{{put("a", 1), "v", 1}}}, probes())
}

// P8.1
func TestNew(t *testing.T) {
	for _, most := range []int{math.MinInt, -1, 0, MaxNodes + 1, 1 << 32, 1<<32 + 1, math.MaxInt} {
		if l, e := New[string](most); l != nil || e != api.ErrArg {
			t.Errorf("New(%d) = %v, error %d", most, l, int(e))
		}
	}
	for _, most := range []int{1, 2, MaxNodes - 1, MaxNodes} {
		expectSame(t, made(t, most), &plain{most: most}, probes())
	}
}

// P8.1: heights and keys at their limits and one beyond.
func TestInsertEdges(t *testing.T) {
	long := strings.Repeat("k", api.MaxKey)
	l, p := made(t, 100), &plain{most: 100}
	for _, height := range []int{math.MinInt, -1, 0, api.MaxHeight + 1, 1 << 32, 1<<32 + 1, math.MaxInt} {
		expectInsert(t, l, put("a", 1), "v", height, api.ErrArg)
	}
	for _, k := range []api.IKey{{}, put("", 1), put(long+"k", 1), put("a", api.MaxSeq+1), put("a", math.MaxUint64), {Key: "a", Seq: 1, Kind: -1}, {Key: "a", Seq: 1, Kind: 256}, {Key: "a", Seq: 1, Kind: 3}} {
		if ikey.Valid(k) {
			t.Fatalf("%v is a key", k)
		}
		expectInsert(t, l, k, "v", 1, api.ErrKey)
	}
	expectSame(t, l, p, probes())
	for height := 1; height <= api.MaxHeight; height++ {
		both(t, l, p, put("a", uint64(height)), "v"+strconv.Itoa(height), height)
		if l.Height() != height || l.Len() != height {
			t.Errorf("Height %d, Len %d, want %d", l.Height(), l.Len(), height)
		}
	}
	for _, k := range []api.IKey{put(long, 1), put("\x00", api.MaxSeq), put("a", 0), {Key: "a", Seq: 1}, {Key: "a", Seq: 1, Kind: api.KindSeek}} {
		if !ikey.Valid(k) {
			t.Fatalf("%v is none", k)
		}
		both(t, l, p, k, "more", 1)
	}
	expectSame(t, l, p, append(probes(), put(long, 1), put(long, 2), put(long, 0)))
}

// The chapter's order of errors; none of them changes anything.
func TestWhichError(t *testing.T) {
	l, p := made(t, 2), &plain{most: 2}
	both(t, l, p, put("b", 1), "b", 2)
	for _, height := range []int{1, 2, 3, api.MaxHeight} {
		expectInsert(t, l, put("b", 1), "x", height, api.ErrThere)
	}
	expectInsert(t, l, put("b", 1), "x", 0, api.ErrArg)
	expectInsert(t, l, put("", 1), "x", 0, api.ErrKey)
	expectSame(t, l, p, probes())
	both(t, l, p, put("a", 1), "a", 1)
	for _, height := range []int{1, 2, 3, api.MaxHeight} {
		expectInsert(t, l, put("a", 1), "x", height, api.ErrThere)
		expectInsert(t, l, put("b", 1), "x", height, api.ErrThere)
		for _, k := range []api.IKey{put("A", 1), put("a", 2), put("a", 0), put("c", 1), {Key: "b", Seq: 1}} {
			expectInsert(t, l, k, "x", height, api.ErrFull)
		}
	}
	for _, height := range []int{0, api.MaxHeight + 1} {
		expectInsert(t, l, put("a", 1), "x", height, api.ErrArg)
		expectInsert(t, l, put("c", 1), "x", height, api.ErrArg)
		expectInsert(t, l, put("", 1), "x", height, api.ErrKey)
		expectInsert(t, nil, put("", 1), "x", height, api.ErrNil)
	}
	expectInsert(t, l, put("", 1), "x", 1, api.ErrKey)
	expectSame(t, l, p, probes())
}

// P8.1: the greatest list there may be.
func TestMaxNodes(t *testing.T) {
	l, _ := New[struct{}](MaxNodes)
	for i := range MaxNodes {
		// Keys that fall, since such are found at once.
		if e := l.Insert(put("k", uint64(i)), struct{}{}, min(bits.TrailingZeros(uint(i+1))+1, api.MaxHeight)); e != api.OK {
			t.Fatalf("the node %d: error %d", i+1, int(e))
		}
	}
	if e := l.Insert(put("k", MaxNodes), struct{}{}, 1); e != api.ErrFull {
		t.Errorf("one more: error %d", int(e))
	}
	if l.Len() != MaxNodes || l.Height() != api.MaxHeight || l.First() != MaxNodes || l.Last() != 1 || len(l.Links(0)) != MaxNodes {
		t.Errorf("Len %d, Height %d, First %d, Last %d", l.Len(), l.Height(), l.First(), l.Last())
	}
	// Each one by way of its towers: node by node this would take its time.
	for i := 0; i < MaxNodes; i += 31 {
		k, _, ok := l.Node(i + 1)
		if !ok || k != put("k", uint64(i)) || l.Seek(k) != i+1 || l.Next(i+1) != i || l.Prev(i+1) != (i+2)%(MaxNodes+1) {
			t.Errorf("of %d: %v, Seek %d, Next %d, Prev %d", i+1, k, l.Seek(k), l.Next(i+1), l.Prev(i+1))
		}
	}
	if l.Prev(MaxNodes) != 0 || l.Next(1) != 0 {
		t.Error("one ahead of the first or behind the last")
	}
	if _, _, ok := l.Node(MaxNodes + 1); ok || l.Next(MaxNodes+1) != 0 || l.Prev(MaxNodes+1) != 0 {
		t.Error("a node behind the last one")
	}
}

// eachOrder goes through all orders of the numbers below size.
func eachOrder(size int, tell func([]int)) {
	var place func([]int)
	place = func(ahead []int) {
		if len(ahead) == size {
			tell(ahead)
			return
		}
		for n := range size {
			if !slices.Contains(ahead, n) {
				place(append(slices.Clone(ahead), n))
			}
		}
	}
	place(nil)
}

// P8.1 to P8.3, P8.6, P8.8: all orders and all low heights of four keys, two of them of one user key.
func TestAllOrders(t *testing.T) {
	keys := []api.IKey{put("a", 1), put("b", 2), {Key: "b", Seq: 2}, put("c", 1)}
	asked := []api.IKey{put("A", 1), keys[0], put("aa", 1), put("b", 3), {Key: "b", Seq: 2, Kind: api.KindSeek}, keys[1], keys[2], put("b", 1), keys[3], put("d", 1)}
	const low = 3
	eachOrder(len(keys), func(order []int) {
		for pick := range low * low * low * low {
			l, p := made(t, len(keys)), &plain{most: len(keys)}
			for _, i := range order {
				both(t, l, p, keys[i], strconv.Itoa(i), pick%low+1)
				pick /= low
			}
			expectSame(t, l, p, asked)
			expectTowers(t, l, asked)
		}
	})
}

// expectTowers holds a list against what follows of its promises: P8.6, P8.8.
func expectTowers(t *testing.T, l *List[string], asked []api.IKey) {
	t.Helper()
	var ahead api.IKey
	count := 0
	for _, k := range l.All() {
		if count > 0 && ikey.Compare(ahead, k) >= 0 {
			t.Errorf("%v behind %v", k, ahead)
		}
		ahead, count = k, count+1
	}
	if links := l.Links(0); count != l.Len() || len(links) != l.Len() {
		t.Errorf("%d gone through, %d in the lowest level, of %d", count, len(links), l.Len())
	}
	for level := 1; level <= l.Height(); level++ {
		for _, n := range l.Links(level) {
			if !slices.Contains(l.Links(level-1), n) {
				t.Errorf("%d stands in level %d, not in the one below", n, level)
			}
		}
	}
	for _, k := range asked {
		expectTrail(t, l, k)
	}
}

func expectTrail(t *testing.T, l *List[string], k api.IKey) {
	t.Helper()
	trail := l.Trail(k)
	if len(trail) != l.Height() || len(trail) > 0 && trail[len(trail)-1] != l.Before(k) {
		t.Errorf("Trail(%v) = %v, Before %d", k, trail, l.Before(k))
	}
	for i, n := range trail {
		links := l.Links(l.Height() - 1 - i)
		if at, _, ok := l.Node(n); ok && ikey.Compare(at, k) >= 0 {
			t.Errorf("%d is not below %v", n, k)
		}
		if place := slices.Index(links, n) + 1; place < len(links) {
			if next, _, _ := l.Node(links[place]); ikey.Compare(next, k) < 0 {
				t.Errorf("the one behind %d is below %v", n, k)
			}
		}
	}
	right := l.First()
	if before := l.Before(k); before != 0 {
		right = l.Next(before)
	}
	if l.Seek(k) != right {
		t.Errorf("Seek(%v) = %d, right behind Before is %d", k, l.Seek(k), right)
	}
}

// anyKey is a key of few user keys, numbers and kinds, so that many are met again.
func anyKey(chance *rand.Rand) api.IKey {
	texts := []string{"a", "a\x00", "aa", "ab", "b", "\xff", "\x00"}
	kinds := []int{api.KindDelete, api.KindPut, api.KindSeek}
	return api.IKey{Key: texts[chance.Intn(len(texts))], Seq: uint64(chance.Intn(6)), Kind: kinds[chance.Intn(len(kinds))]}
}

// P8.1 to P8.4, P8.6, P8.8: lists of many nodes, with keys that come again, and some that are full.
func TestManyNodes(t *testing.T) {
	chance := rand.New(rand.NewSource(8))
	for round := range 60 {
		most, highest := 1+chance.Intn(70), 1+round%api.MaxHeight
		l, p := made(t, most), &plain{most: most}
		for range 80 {
			both(t, l, p, anyKey(chance), strconv.Itoa(chance.Int()), chance.Intn(highest+2))
		}
		var asked []api.IKey
		for range 20 {
			asked = append(asked, anyKey(chance))
		}
		expectSame(t, l, p, append(asked, put("", 1), put("\xff\xff", 1)))
		expectTowers(t, l, asked)
	}
}

// P8.7
func TestHeightsChangeNothing(t *testing.T) {
	chance := rand.New(rand.NewSource(87))
	var keys []api.IKey
	for range 300 {
		keys = append(keys, anyKey(chance))
	}
	heights := []func(int) int{
		func(int) int { return 1 },
		func(int) int { return api.MaxHeight },
		func(i int) int { return i%api.MaxHeight + 1 },
		func(int) int { return 1 + chance.Intn(4) },
	}
	var told []string
	for _, height := range heights {
		l := made(t, 100)
		text := ""
		for i, k := range keys {
			text += strconv.Itoa(int(l.Insert(k, "v"+strconv.Itoa(i), height(i)))) + " "
		}
		for _, k := range keys {
			v, ok := l.Get(k)
			text += v + strconv.FormatBool(ok) + strconv.Itoa(l.Seek(k)) + " " + strconv.Itoa(l.Before(k)) + " "
		}
		for n, k := range l.All() {
			text += strconv.Itoa(n) + k.Key + strconv.Itoa(l.Next(n)) + " " + strconv.Itoa(l.Prev(n)) + " "
		}
		text += strconv.Itoa(l.First()) + " " + strconv.Itoa(l.Last()) + " " + strconv.Itoa(l.Len())
		told = append(told, text)
	}
	for i, text := range told {
		if text != told[0] {
			t.Errorf("heights %d are found otherwise", i)
		}
	}
}

// The same keys in another order: other numbers, the same way through.
func TestOtherOrders(t *testing.T) {
	keys := []api.IKey{put("a", 3), put("a", 2), {Key: "a", Seq: 2}, put("a\x00", 9), put("b", 1)}
	eachOrder(len(keys), func(order []int) {
		l := made(t, len(keys))
		for at, i := range order {
			expectInsert(t, l, keys[i], "", at%3+1, api.OK)
		}
		at := 0
		for n, k := range l.All() {
			if at >= len(keys) || k != keys[at] || n != slices.Index(order, at)+1 {
				t.Fatalf("order %v: %d, %v at the place %d", order, n, k, at)
			}
			at++
		}
	})
}
