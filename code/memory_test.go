package code_test

import (
	"bytes"
	"fmt"
	"math/rand"
	"slices"
	"testing"
	"unsafe"

	"tableau/api"
	"tableau/code"
)

// odd is an instruction that no code has.
var odd = api.Instr{At: -9, Op: 255, A: -9, B: -9, C: -9}

// roomy is the list with what is there as spare room behind it.
func roomy[T any](l []T, behind ...T) []T {
	more := append(slices.Clone(l), behind...)
	return more[: len(l) : len(l)+len(behind)]
}

// whole is the list with its spare room, in memory of its own.
func whole[T any](l []T) []T { return slices.Clone(l[:cap(l)]) }

// spoil writes over the list and its spare room.
func spoil[T any](l []T, with T) {
	for i := range l[:cap(l)] {
		l[:cap(l)][i] = with
	}
}

// things are codes, right ones and ones with faults.
func things() []thing {
	r := rand.New(rand.NewSource(8))
	l := []thing{{}, full(65535), {b: []byte{7}, l: []api.Instr{{Op: 7}}, s: "0 add"}, {b: []byte{34, 1, 1}, l: []api.Instr{{Op: api.IStop}, {At: 2, Op: api.IStop}}, s: "0 stop\n2 stop\n"}}
	for range 60 {
		x := anyThing(r, r.Intn(9))
		l = append(l, x, thing{x.b[:r.Intn(len(x.b)+1)], bent(r, x.l), torn(r, x.s)})
	}
	return l
}

// answers are what all calls answer for the thing, as a text.
func answers(x thing) string {
	b, err, number := code.Put(x.l...)
	l, why, at := code.All(x.b)
	m, fault, row := code.Parse(x.s)
	y, no := code.Read(x.b, len(x.b)/2)
	return fmt.Sprint(b, int(err), number, l, int(why), at, m, int(fault), row, y, int(no), code.Text(x.l))
}

func TestWhatIsHandedInStays(t *testing.T) {
	for _, x := range things() {
		b, l := roomy(x.b, 34, 34, 7), roomy(x.l, odd, odd)
		bytesBefore, listBefore := whole(b), whole(l)
		got, _, _ := code.Put(l...)
		list, _, _ := code.All(b)
		code.Read(b, len(b)/2)
		code.Text(l)
		spoil(got, 99)
		spoil(list, odd)
		if !bytes.Equal(whole(b), bytesBefore) {
			t.Errorf("P16.2, P16.3: bytes are changed: % .20x, once % .20x (R5)", whole(b), bytesBefore)
		}
		if !slices.Equal(whole(l), listBefore) {
			t.Errorf("P16.4, P16.5: instructions are changed: %.200v, once %.200v (R5)", whole(l), listBefore)
		}
	}
}

// TestSpareRoom: what stands behind a list in memory is no part of it.
func TestSpareRoom(t *testing.T) {
	for _, x := range things() {
		want := answers(x)
		for _, behind := range [][]byte{{34, 34, 34, 34}, {7, 7, 7, 7}, {1, 1, 1, 1}} {
			y := thing{roomy(x.b, behind...), roomy(x.l, api.Instr{At: len(x.b), Op: behind[0]}), x.s}
			if got := answers(y); got != want {
				t.Errorf("P16: with spare room: %.300s, not %.300s (R5)", got, want)
			}
		}
	}
}

func TestAnswersHaveTheirOwnMemory(t *testing.T) {
	for _, x := range things() {
		first, _, _ := code.Put(x.l...)
		second, _, _ := code.Put(x.l...)
		want := slices.Clone(second)
		spoil(first, 99)
		if !bytes.Equal(second, want) {
			t.Errorf("P16.4: two answers share memory: % .20x, not % .20x (R5)", second, want)
		}
		for name, read := range map[string]func() []api.Instr{
			"P16.3": func() []api.Instr { l, _, _ := code.All(x.b); return l },
			"P16.6": func() []api.Instr { l, _, _ := code.Parse(x.s); return l },
		} {
			first, second := read(), read()
			want := slices.Clone(second)
			spoil(first, odd)
			if !slices.Equal(second, want) || !slices.Equal(read(), want) {
				t.Errorf("%s: two answers share memory: %.200v, not %.200v (R5)", name, second, want)
			}
		}
	}
}

// TestAnswersStay: what was handed in may be written over behind the call.
func TestAnswersStay(t *testing.T) {
	for _, x := range things() {
		b, l, s := slices.Clone(x.b), slices.Clone(x.l), []byte(x.s)
		put, _, _ := code.Put(l...)
		all, _, _ := code.All(b)
		text := code.Text(l)
		parsed, _, _ := code.Parse(unsafe.String(unsafe.SliceData(s), len(s)))
		want := fmt.Sprint(put, all, text, parsed)
		spoil(b, 99)
		spoil(l, odd)
		spoil(s, '#')
		if got := fmt.Sprint(put, all, text, parsed); got != want {
			t.Errorf("P16: answers hang on what was handed in: %.300s, not %.300s (R5)", got, want)
		}
	}
}

func TestNilAndEmpty(t *testing.T) {
	want := answers(thing{})
	for _, x := range []thing{{b: []byte{}, l: []api.Instr{}}, {b: make([]byte, 0, 5), l: make([]api.Instr, 0, 5)}} {
		if got := answers(x); got != want {
			t.Errorf("P16: of empty lists %s, of none %s (R4)", got, want)
		}
	}
}

// TestOrderOfCalls: calls know nothing of each other.
func TestOrderOfCalls(t *testing.T) {
	l := things()
	var want []string
	for _, x := range l {
		want = append(want, answers(x))
	}
	for _, i := range rand.New(rand.NewSource(9)).Perm(len(l)) {
		if got := answers(l[i]); got != want[i] {
			t.Errorf("P16: later %.300s, not %.300s (R6)", got, want[i])
		}
	}
}
