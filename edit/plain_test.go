package edit

import (
	"encoding/binary"
	"fmt"
	"math"
	"math/rand"
	"reflect"
	"slices"
	"strings"
	"testing"

	"moraine/api"
)

// What the chapter says, word by word and without the package's own functions nor those of codec: the tests hold the package against it.

// brief tells the beginning of anything.
func brief(x any) string {
	s := fmt.Sprintf("%+v", x)
	return s[:min(len(s), 200)]
}

// file is a file with a Number that may be.
func file(number int) api.File {
	return api.File{Number: number, Size: 10, Least: "a", Limit: "b", Low: 1, High: 1}
}

func come(level, number int) api.Added { return api.Added{Level: level, File: file(number)} }

func gone(level, number int) api.Place { return api.Place{Level: level, Number: number} }

// full is an edit that says everything, each thing by another number.
func full() api.Edit {
	return api.Edit{Log: 300, Next: 17, Seq: 1 << 40, Gone: []api.Place{gone(2, 9), gone(0, 128)}, Come: []api.Added{
		{Level: 3, File: api.File{Number: 7, Size: 4096, Least: "k\x00", Limit: "k\xff\xfe", Low: 130, High: 1 << 20}},
		{Level: 0, File: api.File{Number: 6, Size: 1, Least: "\x00", Limit: "\x00\x00", Low: 2, High: 3}},
	}}
}

func plainIsPlace(level, number int) bool {
	return level >= 0 && level <= 6 && number >= 1 && number <= 1<<31-1
}

// plainValid holds each two against each other.
func plainValid(e api.Edit) bool {
	ok := e.Log >= 0 && e.Log <= 1<<31-1 && e.Next >= 0 && e.Next <= 1<<31-1 && e.Seq <= 1<<56-1
	for i, p := range e.Gone {
		ok = ok && plainIsPlace(p.Level, p.Number)
		for _, q := range e.Gone[:i] {
			ok = ok && !(p.Level == q.Level && p.Number == q.Number)
		}
	}
	for i, x := range e.Come {
		f := x.File
		ok = ok && plainIsPlace(x.Level, f.Number) && f.Size >= 1 && f.Size <= 1<<28
		ok = ok && len(f.Least) >= 1 && len(f.Least) <= 1024 && f.Least < f.Limit && len(f.Limit) <= 1025
		ok = ok && f.Low >= 1 && f.Low <= f.High && f.High <= 1<<56-1
		for _, y := range e.Come[:i] {
			ok = ok && f.Number != y.File.Number
		}
	}
	return ok
}

// plainGone and plainCome tell one thing's bytes, whether it may be or not.
func plainGone(p api.Place) []byte {
	return binary.AppendUvarint(binary.AppendUvarint([]byte{4}, uint64(p.Level)), uint64(p.Number))
}

func plainCome(x api.Added) []byte {
	b := []byte{5}
	for _, v := range []int{x.Level, x.File.Number, x.File.Size} {
		b = binary.AppendUvarint(b, uint64(v))
	}
	for _, s := range []string{x.File.Least, x.File.Limit} {
		b = append(binary.AppendUvarint(b, uint64(len(s))), s...)
	}
	return binary.AppendUvarint(binary.AppendUvarint(b, x.File.Low), x.File.High)
}

// plainSaid tells what is said by a tag, also if it is 0.
func plainSaid(tag byte, v uint64) []byte { return binary.AppendUvarint([]byte{tag}, v) }

// plainThings tells the bytes of each thing that an edit says, whether it may be or not.
func plainThings(e api.Edit) [][]byte {
	var out [][]byte
	for i, v := range []uint64{uint64(e.Log), uint64(e.Next), e.Seq} {
		if v != 0 {
			out = append(out, plainSaid(byte(i+1), v))
		}
	}
	for _, p := range e.Gone {
		out = append(out, plainGone(p))
	}
	for _, x := range e.Come {
		out = append(out, plainCome(x))
	}
	return out
}

func plainBytes(e api.Edit) []byte { return slices.Concat(plainThings(e)...) }

func plainLater[T int | uint64](a, b T) T {
	if b == 0 {
		return a
	}
	return b
}

func plainMerge(a, b api.Edit) api.Edit {
	out := api.Edit{Log: plainLater(a.Log, b.Log), Next: plainLater(a.Next, b.Next), Seq: plainLater(a.Seq, b.Seq), Gone: slices.Clone(a.Gone)}
	for _, p := range b.Gone {
		if !slices.ContainsFunc(a.Come, func(x api.Added) bool { return x.Level == p.Level && x.File.Number == p.Number }) {
			out.Gone = append(out.Gone, p)
		}
	}
	for _, x := range a.Come {
		if !slices.Contains(b.Gone, api.Place{Level: x.Level, Number: x.File.Number}) {
			out.Come = append(out.Come, x)
		}
	}
	out.Come = append(out.Come, b.Come...)
	return out
}

// same tells whether two edits are one: a list without an element may be nil or empty.
func same(a, b api.Edit) bool {
	return a.Log == b.Log && a.Next == b.Next && a.Seq == b.Seq && slices.Equal(a.Gone, b.Gone) && slices.Equal(a.Come, b.Come)
}

// expectNone expects what stands beside an error.
func expectNone(t *testing.T, what string, got api.Edit, e, want api.Errno) {
	t.Helper()
	if e != want || !same(got, api.Edit{}) {
		t.Errorf("%s: %s, error %d; want nothing, error %d", what, brief(got), int(e), int(want))
	}
}

// expectWhole expects an edit to be valid, and its bytes to be the plain ones, and to be read as the edit.
func expectWhole(t *testing.T, e api.Edit) {
	t.Helper()
	if !Valid(e) {
		t.Errorf("not valid: %s", brief(e))
	}
	want := plainBytes(e)
	b, err := Encode(e)
	if err != api.OK || string(b) != string(want) {
		t.Errorf("Encode(%s) = %s, error %d; want %s", brief(e), brief(b), int(err), brief(want))
	}
	got, err := Decode(want)
	if err != api.OK || !same(got, e) {
		t.Errorf("Decode(%s) = %s, error %d; want %s", brief(want), brief(got), int(err), brief(e))
	}
}

// expectWrong expects an edit not to be valid, and what would be its bytes to be none.
func expectWrong(t *testing.T, e api.Edit) {
	t.Helper()
	if Valid(e) {
		t.Errorf("valid: %s", brief(e))
	}
	if b, err := Encode(e); err != api.ErrArg || len(b) != 0 {
		t.Errorf("Encode(%s) = %s, error %d", brief(e), brief(b), int(err))
	}
	got, err := Decode(plainBytes(e))
	expectNone(t, "Decode of what would be "+brief(e), got, err, api.ErrEdit)
}

// tryFile tries a file alone, and among others.
func tryFile(t *testing.T, want bool, change func(f *api.File)) {
	t.Helper()
	x := come(1, 3)
	change(&x.File)
	expect := expectWrong
	if want {
		expect = expectWhole
	}
	expect(t, api.Edit{Come: []api.Added{x}})
	e := full()
	e.Come = append(e.Come, x)
	expect(t, e)
	e.Come = slices.Insert(e.Come[:2], 1, x)
	expect(t, e)
}

// anyEdit makes an edit of few Numbers, so that they meet: with many things it is seldom valid.
func anyEdit(chance *rand.Rand, most int) api.Edit {
	var e api.Edit
	if chance.Intn(2) == 0 {
		e.Log = chance.Intn(1 << chance.Intn(31))
	}
	if chance.Intn(2) == 0 {
		e.Next = chance.Intn(1 << chance.Intn(31))
	}
	if chance.Intn(2) == 0 {
		e.Seq = chance.Uint64() >> (8 + chance.Intn(56))
	}
	for range chance.Intn(most + 1) {
		e.Gone = append(e.Gone, gone(chance.Intn(3), 1+chance.Intn(4)))
	}
	for range chance.Intn(most + 1) {
		least := strings.Repeat(string(rune('a'+chance.Intn(4))), 1+chance.Intn(3))
		low := 1 + chance.Uint64()>>(10+chance.Intn(50))
		f := api.File{Number: 1 + chance.Intn(4), Size: 1 + chance.Intn(1<<chance.Intn(28)), Least: least, Limit: least + "\x00", Low: low, High: low + uint64(chance.Intn(3))}
		e.Come = append(e.Come, api.Added{Level: chance.Intn(3), File: f})
	}
	return e
}

// wrongInts are ints that no limit bears.
func wrongInts() []int {
	return []int{-1, -2, math.MinInt, math.MaxInt, 1 << 32, 1<<32 + 1, 1 << 56, -1 << 31}
}

// filled tells an edit whose lists have spare room that is not empty, and a call that tells whether all of it is still as it was.
func filled(e api.Edit) (api.Edit, func() bool) {
	g, c := make([]api.Place, len(e.Gone), len(e.Gone)+4), make([]api.Added, len(e.Come), len(e.Come)+4)
	copy(g, e.Gone)
	copy(c, e.Come)
	for i := range 4 {
		g[:cap(g)][len(g)+i], c[:cap(c)][len(c)+i] = gone(5, 900+i), come(5, 900+i)
	}
	wantG, wantC := slices.Clone(g[:cap(g)]), slices.Clone(c[:cap(c)])
	out := e
	out.Gone, out.Come = g, c
	return out, func() bool {
		return reflect.DeepEqual(wantG, g[:cap(g)]) && reflect.DeepEqual(wantC, c[:cap(c)])
	}
}

// spoil changes all that an edit's lists reach, their spare room too.
func spoil(e api.Edit) {
	for i := range e.Gone[:cap(e.Gone)] {
		e.Gone[:cap(e.Gone)][i] = gone(-7, -7)
	}
	for i := range e.Come[:cap(e.Come)] {
		e.Come[:cap(e.Come)][i] = come(-7, -7)
	}
}
