package skip

import (
	"math"
	"slices"
	"testing"

	"moraine/api"
	"moraine/ikey"
)

// plain is a list written word by word: its nodes as they came, asked one by one.
type plain struct {
	most  int
	nodes []plainNode
}

type plainNode struct {
	key    api.IKey
	value  string
	height int
}

func (p *plain) insert(k api.IKey, v string, height int) api.Errno {
	switch {
	case !ikey.Valid(k):
		return api.ErrKey
	case height < 1 || height > api.MaxHeight:
		return api.ErrArg
	case slices.ContainsFunc(p.nodes, func(x plainNode) bool { return ikey.Compare(x.key, k) == 0 }):
		return api.ErrThere
	case len(p.nodes) >= p.most:
		return api.ErrFull
	}
	p.nodes = append(p.nodes, plainNode{k, v, height})
	return api.OK
}

func (p *plain) has(n int) bool {
	return n >= 1 && n <= len(p.nodes)
}

func (p *plain) height() int {
	h := 0
	for _, x := range p.nodes {
		h = max(h, x.height)
	}
	return h
}

// links are the numbers of the nodes that stand in a level, in order.
func (p *plain) links(level int) []int {
	if level < 0 {
		return nil
	}
	var l []int
	for i, x := range p.nodes {
		if level < x.height {
			l = append(l, i+1)
		}
	}
	slices.SortFunc(l, func(a, b int) int { return ikey.Compare(p.nodes[a-1].key, p.nodes[b-1].key) })
	return l
}

// before is the last node of a level that is below a key, seek the first one that is not.
func (p *plain) before(level int, k api.IKey) (before, seek int) {
	for _, n := range p.links(level) {
		if ikey.Compare(p.nodes[n-1].key, k) >= 0 {
			return before, n
		}
		before = n
	}
	return before, 0
}

func (p *plain) trail(k api.IKey) []int {
	var l []int
	for level := p.height() - 1; level >= 0; level-- {
		n, _ := p.before(level, k)
		l = append(l, n)
	}
	return l
}

// beside are the nodes right ahead and right behind one.
func (p *plain) beside(n int) (prev, next int) {
	l := append(append([]int{0}, p.links(0)...), 0)
	for i := 1; p.has(n) && i < len(l)-1; i++ {
		if l[i] == n {
			return l[i-1], l[i+1]
		}
	}
	return 0, 0
}

func (p *plain) get(k api.IKey) (string, bool) {
	for _, x := range p.nodes {
		if ikey.Compare(x.key, k) == 0 {
			return x.value, true
		}
	}
	return "", false
}

func (p *plain) node(n int) (api.IKey, string, bool) {
	if !p.has(n) {
		return api.IKey{}, "", false
	}
	return p.nodes[n-1].key, p.nodes[n-1].value, true
}

// expectSame holds all that a list tells against a plain one.
func expectSame(t *testing.T, l *List[string], p *plain, probes []api.IKey) {
	t.Helper()
	if l.Len() != len(p.nodes) || l.Height() != p.height() {
		t.Errorf("Len %d, Height %d, want %d, %d", l.Len(), l.Height(), len(p.nodes), p.height())
	}
	all := p.links(0)
	first, last := 0, 0
	if len(all) > 0 {
		first, last = all[0], all[len(all)-1]
	}
	if l.First() != first || l.Last() != last {
		t.Errorf("First %d, Last %d, want %d, %d", l.First(), l.Last(), first, last)
	}
	for level := -2; level < api.MaxHeight+2; level++ {
		expectNumbers(t, "Links", l.Links(level), p.links(level))
	}
	for _, level := range []int{math.MinInt, math.MaxInt, math.MinInt32, math.MaxInt32, 1 << 32, 256} {
		expectNumbers(t, "Links", l.Links(level), nil)
	}
	expectAll(t, l, p)
	expectNodes(t, l, p)
	for _, k := range probes {
		expectFound(t, l, p, k)
	}
}

func expectNumbers(t *testing.T, what string, got, want []int) {
	t.Helper()
	if !slices.Equal(got, want) {
		t.Errorf("%s: %v, want %v", what, got, want)
	}
}

func expectAll(t *testing.T, l *List[string], p *plain) {
	t.Helper()
	var all []int
	for n, k := range l.All() {
		if key, _, _ := p.node(n); key != k {
			t.Errorf("All tells %v of %d, want %v", k, n, key)
		}
		all = append(all, n)
	}
	expectNumbers(t, "All", all, p.links(0))
}

func expectNodes(t *testing.T, l *List[string], p *plain) {
	t.Helper()
	numbers := []int{math.MinInt, math.MaxInt, math.MinInt32, 1 << 32, 1<<32 + 1}
	for n := -2; n <= len(p.nodes)+2; n++ {
		numbers = append(numbers, n)
	}
	for _, n := range numbers {
		prev, next := p.beside(n)
		if l.Prev(n) != prev || l.Next(n) != next {
			t.Errorf("beside %d: %d, %d, want %d, %d", n, l.Prev(n), l.Next(n), prev, next)
		}
		k, v, ok := l.Node(n)
		if key, value, there := p.node(n); k != key || v != value || ok != there {
			t.Errorf("Node(%d) = %v, %q, %v", n, k, v, ok)
		}
	}
}

func expectFound(t *testing.T, l *List[string], p *plain, k api.IKey) {
	t.Helper()
	v, ok := l.Get(k)
	if value, there := p.get(k); v != value || ok != there {
		t.Errorf("Get(%v) = %q, %v, want %q, %v", k, v, ok, value, there)
	}
	before, seek := p.before(0, k)
	if l.Before(k) != before || l.Seek(k) != seek {
		t.Errorf("Before(%v) = %d, Seek = %d, want %d, %d", k, l.Before(k), l.Seek(k), before, seek)
	}
	expectNumbers(t, "Trail", l.Trail(k), p.trail(k))
}
