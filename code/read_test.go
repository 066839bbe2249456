package code_test

import (
	"bytes"
	"math"
	"slices"
	"testing"

	"tableau/api"
	"tableau/code"
)

func wantRead(t *testing.T, b []byte, at int, want api.Instr, why api.Errno) {
	t.Helper()
	if x, err := code.Read(b, at); x != want || err != why {
		t.Errorf("P16.2: Read(% .20x, %d) = %v, %d, not %v, %d", b, at, x, int(err), want, int(why))
	}
}

func wantAll(t *testing.T, b []byte, want []api.Instr, why api.Errno, where int) {
	t.Helper()
	if l, err, at := code.All(b); !slices.Equal(l, want) || err != why || at != where {
		t.Errorf("P16.3: All(% .20x) = %.200v, %d, %d, not %.200v, %d, %d", b, l, int(err), at, want, int(why), where)
	}
}

func TestReadOfTheExamples(t *testing.T) {
	b := []byte{1, 2, 3}
	wantRead(t, b, 0, api.Instr{Op: api.IPush, A: 515}, api.OK)
	wantRead(t, b, 1, api.Instr{At: 1, Op: api.ITrue}, api.OK)
	wantRead(t, b, 2, api.Instr{At: 2, Op: api.IFalse}, api.OK)
	wantRead(t, b, 3, api.Instr{}, api.ErrArg)
	wantRead(t, b, -1, api.Instr{}, api.ErrArg)
	wantRead(t, []byte{1, 2}, 0, api.Instr{}, api.ErrCut)
	wantRead(t, []byte{7}, 0, api.Instr{}, api.ErrCode)
	wantRead(t, []byte{0x20, 5, 6, 1, 0}, 0, api.Instr{Op: api.IEach, A: 5, B: 6, C: 256}, api.OK)
}

// TestReadOfEachOpcode: alone, and with other bytes ahead and behind.
func TestReadOfEachOpcode(t *testing.T) {
	for _, a := range accounts() {
		for _, n := range a.edges() {
			b := a.bytes(n...)
			wantRead(t, b, 0, a.instr(0, n...), api.OK)
			wantRead(t, slices.Concat([]byte{7, 255}, b, []byte{255, 7, 1}), 2, a.instr(2, n...), api.OK)
		}
	}
}

func TestReadOfWhatIsNoOpcode(t *testing.T) {
	for _, op := range others() {
		wantRead(t, []byte{op}, 0, api.Instr{}, api.ErrCode)
		wantRead(t, []byte{op, 1, 2, 3, 4, 5}, 0, api.Instr{}, api.ErrCode)
		wantRead(t, []byte{34, op}, 1, api.Instr{}, api.ErrCode)
	}
}

// TestReadOfWhatIsCut: with one byte missing, with two, up to all operands; what stands behind the code in memory is none of its bytes.
func TestReadOfWhatIsCut(t *testing.T) {
	for _, a := range accounts() {
		whole := append(bytes.Repeat([]byte{9}, 3), a.bytes(slices.Repeat([]int{1}, len(a.wide))...)...)
		for missing := 1; missing < a.size(); missing++ {
			wantRead(t, whole[:len(whole)-missing], 3, api.Instr{}, api.ErrCut)
			wantRead(t, slices.Clone(whole[3:len(whole)-missing]), 0, api.Instr{}, api.ErrCut)
		}
		wantRead(t, whole, 3, a.instr(3, slices.Repeat([]int{1}, len(a.wide))...), api.OK)
	}
}

// TestReadAtNoPlace: ErrArg goes ahead of the other errors; near the ends of numbers nothing goes round.
func TestReadAtNoPlace(t *testing.T) {
	for _, b := range [][]byte{nil, {}, {34}, {7}, {1}, {32, 1, 1, 1}, {1, 2, 3}, make([]byte, 0, 9), bytes.Repeat([]byte{34}, 70000)} {
		for _, at := range []int{-1, -2, -5, -len(b), -len(b) - 1, math.MinInt, math.MinInt + 1, len(b), len(b) + 1, len(b) + 5, math.MaxInt, math.MaxInt - 4} {
			if at < 0 || at >= len(b) {
				wantRead(t, b, at, api.Instr{}, api.ErrArg)
			}
		}
	}
}

func TestReadFarBehind(t *testing.T) {
	b := append(bytes.Repeat([]byte{7}, 100000), 32, 255, 0, 255, 254)
	wantRead(t, b, 100000, api.Instr{At: 100000, Op: api.IEach, A: 255, C: 65534}, api.OK)
	wantRead(t, b, 99999, api.Instr{}, api.ErrCode)
}

func TestAllOfTheExamples(t *testing.T) {
	wantAll(t, []byte{4, 1, 10, 34}, []api.Instr{{Op: api.ILoad, A: 1}, {At: 2, Op: api.IAdd}, {At: 3, Op: api.IStop}}, api.OK, 0)
	wantAll(t, []byte{4, 1, 7}, nil, api.ErrCode, 2)
	wantAll(t, []byte{4, 1, 4}, nil, api.ErrCut, 2)
	wantAll(t, nil, nil, api.OK, 0)
	wantAll(t, []byte{}, nil, api.OK, 0)
}

func TestAllOfOneInstruction(t *testing.T) {
	for _, a := range accounts() {
		for _, n := range a.edges() {
			wantAll(t, a.bytes(n...), []api.Instr{a.instr(0, n...)}, api.OK, 0)
		}
	}
}

// TestAllTellsTheFirstFault: whatever stands behind it, another fault too.
func TestAllTellsTheFirstFault(t *testing.T) {
	wantAll(t, []byte{7, 7}, nil, api.ErrCode, 0)
	wantAll(t, []byte{1}, nil, api.ErrCut, 0)
	wantAll(t, []byte{34, 0, 1}, nil, api.ErrCode, 1)
	wantAll(t, []byte{34, 1, 7, 7, 7, 34}, nil, api.ErrCode, 4)
	wantAll(t, []byte{32, 7, 7, 7, 7, 255, 34}, nil, api.ErrCode, 5)
	wantAll(t, []byte{34, 34, 32, 1, 7, 7}, nil, api.ErrCut, 2)
}

// TestAllOfMany: code may be read that is longer than what may be put.
func TestAllOfMany(t *testing.T) {
	var want []api.Instr
	for at := range 70000 {
		want = append(want, api.Instr{At: at, Op: api.IStop})
	}
	b := bytes.Repeat([]byte{34}, 70000)
	wantAll(t, b[:65535], want[:65535], api.OK, 0)
	wantAll(t, b[:65536], want[:65536], api.OK, 0)
	wantAll(t, b, want, api.OK, 0)
	wantAll(t, append(b, 6), nil, api.ErrCode, 70000)
	wantAll(t, append(b, 60), nil, api.ErrCut, 70000)
}
