package check

import (
	"math"
	"math/rand"
	"testing"

	"moraine/api"
)

func expectRunning(t *testing.T, r *Running, b []byte) {
	t.Helper()
	if r.Len() != len(b) || r.Sum() != Sum(b) || r.Masked() != Mask(Sum(b)) {
		t.Errorf("length %d, sum %08x, masked %08x; want %d, %08x, %08x", r.Len(), r.Sum(), r.Masked(), len(b), Sum(b), Mask(Sum(b)))
	}
}

func expectErrno(t *testing.T, got, want api.Errno) {
	t.Helper()
	if got != want {
		t.Errorf("error %d, want %d", got, want)
	}
}

func TestRunningGrows(t *testing.T) {
	r := New()
	expectRunning(t, r, nil)
	expectErrno(t, r.Add(nil), api.OK)
	expectErrno(t, r.AddText(""), api.OK)
	expectRunning(t, r, nil)
	expectErrno(t, r.Add([]byte("1234")), api.OK)
	expectErrno(t, r.AddText("5678"), api.OK)
	expectErrno(t, r.Add([]byte("9")), api.OK)
	expectErrno(t, r.Add([]byte{}), api.OK)
	expectRunning(t, r, []byte("123456789"))
	if r.Sum() != 0xe3069283 {
		t.Errorf("Sum = %08x", r.Sum())
	}
	expectErrno(t, r.AddText("\x00\xff\x80"), api.OK)
	expectRunning(t, r, []byte("123456789\x00\xff\x80"))
	r.Clear()
	expectRunning(t, r, nil)
	expectErrno(t, r.AddText("again"), api.OK)
	expectRunning(t, r, []byte("again"))
}

func TestJoin(t *testing.T) {
	r, o, none := New(), New(), New()
	expectErrno(t, r.AddText("12345"), api.OK)
	expectErrno(t, o.AddText("6789"), api.OK)
	expectErrno(t, r.Join(o), api.OK)
	expectRunning(t, r, []byte("123456789"))
	expectRunning(t, o, []byte("6789"))
	expectErrno(t, r.Join(none), api.OK)
	expectRunning(t, r, []byte("123456789"))
	expectErrno(t, none.Join(o), api.OK)
	expectRunning(t, none, []byte("6789"))
	expectErrno(t, o.AddText("x"), api.OK)
	expectRunning(t, r, []byte("123456789"))
	expectRunning(t, none, []byte("6789"))
}

func TestJoinWithItself(t *testing.T) {
	r := New()
	expectErrno(t, r.Join(r), api.OK)
	expectRunning(t, r, nil)
	expectErrno(t, r.AddText("123456789"), api.OK)
	expectErrno(t, r.Join(r), api.OK)
	expectRunning(t, r, []byte("123456789123456789"))
	if r.Len() != 18 {
		t.Errorf("Len = %d", r.Len())
	}
}

// full has MaxRun bytes of nought: 53 doublings of one.
func full(t *testing.T) *Running {
	t.Helper()
	r := New()
	expectErrno(t, r.Add([]byte{0}), api.OK)
	for range 53 {
		expectErrno(t, r.Join(r), api.OK)
	}
	return r
}

func expectGreat(t *testing.T, r *Running, noughts int) {
	t.Helper()
	want, _ := Zeros(0, noughts)
	if r.Len() != noughts || r.Sum() != want || r.Masked() != Mask(want) {
		t.Errorf("length %d, sum %08x; want %d, %08x", r.Len(), r.Sum(), noughts, want)
	}
}

func TestRunningIsFullAtMaxRun(t *testing.T) {
	r, one := full(t), New()
	expectErrno(t, one.Add([]byte{0}), api.OK)
	expectGreat(t, r, MaxRun)
	if MaxRun != 9007199254740992 {
		t.Errorf("MaxRun = %d", MaxRun)
	}
	for range 2 {
		expectErrno(t, r.Add([]byte{0}), api.ErrBig)
		expectErrno(t, r.AddText("\x00"), api.ErrBig)
		expectErrno(t, r.AddText("many bytes"), api.ErrBig)
		expectErrno(t, r.Join(one), api.ErrBig)
		expectErrno(t, r.Join(r), api.ErrBig)
		expectErrno(t, one.Join(r), api.ErrBig)
		expectErrno(t, r.Join(nil), api.ErrNil)
		expectGreat(t, r, MaxRun)
		expectGreat(t, one, 1)
	}
	expectErrno(t, r.Add(nil), api.OK)
	expectErrno(t, r.AddText(""), api.OK)
	expectErrno(t, r.Join(New()), api.OK)
	expectGreat(t, r, MaxRun)
	o := New()
	expectErrno(t, o.Join(r), api.OK)
	expectGreat(t, o, MaxRun)
	r.Clear()
	expectRunning(t, r, nil)
	expectErrno(t, r.Add([]byte{0}), api.OK)
	expectGreat(t, r, 1)
}

// MaxRun less one byte is 1 + 2 + 4 + .. + 2^52 bytes: there is room for one more, by each of the three.
func TestRunningOneBelowMaxRun(t *testing.T) {
	power, r := New(), New()
	expectErrno(t, power.Add([]byte{0}), api.OK)
	for range 53 {
		expectErrno(t, r.Join(power), api.OK)
		expectErrno(t, power.Join(power), api.OK)
	}
	expectGreat(t, r, MaxRun-1)
	expectErrno(t, r.Add([]byte{0, 0}), api.ErrBig)
	expectErrno(t, r.AddText("\x00\x00"), api.ErrBig)
	expectErrno(t, r.Join(r), api.ErrBig)
	expectGreat(t, r, MaxRun-1)
	one := New()
	expectErrno(t, one.Add([]byte{0}), api.OK)
	for _, more := range []func(r *Running) api.Errno{
		func(r *Running) api.Errno { return r.Add([]byte{0}) },
		func(r *Running) api.Errno { return r.AddText("\x00") },
		func(r *Running) api.Errno { return r.Join(one) },
	} {
		s := New()
		expectErrno(t, s.Join(r), api.OK)
		expectErrno(t, more(s), api.OK)
		expectGreat(t, s, MaxRun)
		expectErrno(t, more(s), api.ErrBig)
		expectGreat(t, s, MaxRun)
	}
}

// Rule 1: neither a nil Running nor a plain one has anything, and nothing can be given to it.
func TestRunningsThatAreNone(t *testing.T) {
	some := New()
	expectErrno(t, some.AddText("some"), api.OK)
	for _, r := range []*Running{nil, {}, new(Running)} {
		for range 2 {
			expectErrno(t, r.Add([]byte("x")), api.ErrNil)
			expectErrno(t, r.Add(nil), api.ErrNil)
			expectErrno(t, r.AddText("x"), api.ErrNil)
			expectErrno(t, r.AddText(""), api.ErrNil)
			expectErrno(t, r.Join(some), api.ErrNil)
			expectErrno(t, r.Join(full(t)), api.ErrNil)
			expectErrno(t, r.Join(r), api.ErrNil)
			expectErrno(t, r.Join(nil), api.ErrNil)
			expectErrno(t, some.Join(r), api.ErrNil)
			r.Clear()
			if r.Sum() != 0 || r.Masked() != 0 || r.Len() != 0 {
				t.Errorf("sum %08x, masked %08x, length %d", r.Sum(), r.Masked(), r.Len())
			}
			expectRunning(t, some, []byte("some"))
		}
	}
}

// P2.7: the parts of a list are joined in order, two by two, in whatever groups.
func TestPartsJoinedHaveTheSumOfTheWhole(t *testing.T) {
	chance := rand.New(rand.NewSource(7))
	for range 300 {
		parts := make([][]byte, 1+chance.Intn(6))
		for i := range parts {
			parts[i] = randomBytes(chance, chance.Intn(100))
		}
		whole := joined(parts...)
		extended, combined, r := uint32(0), uint32(0), New()
		for i, p := range parts {
			extended = Extend(extended, p)
			c, e := Combine(combined, Sum(p), len(p))
			expectErrno(t, e, api.OK)
			combined = c
			o := New()
			switch i % 3 {
			case 0:
				expectErrno(t, o.Add(p), api.OK)
				expectErrno(t, r.Join(o), api.OK)
			case 1:
				expectErrno(t, r.Add(p), api.OK)
			case 2:
				expectErrno(t, r.AddText(string(p)), api.OK)
			}
		}
		if extended != Sum(whole) || combined != Sum(whole) {
			t.Errorf("extended %08x, combined %08x, want %08x", extended, combined, Sum(whole))
		}
		expectRunning(t, r, whole)
	}
}

func TestCombineIsJoinedInAnyGroups(t *testing.T) {
	for _, n := range []int{0, 1, 5, 1 << 40, math.MaxInt / 2} {
		for _, m := range []int{0, 1, 7, 1 << 33, math.MaxInt / 2} {
			ab, _ := Combine(3, 0x12345678, n)
			left, _ := Combine(ab, 99, m)
			bc, _ := Combine(0x12345678, 99, m)
			right, _ := Combine(3, bc, n+m)
			if left != right {
				t.Errorf("of %d and %d bytes: %08x and %08x", n, m, left, right)
			}
		}
	}
}
