package code_test

import (
	"bytes"
	"math"
	"slices"
	"testing"

	"tableau/api"
	"tableau/code"
)

// wantPut asks for what Put answers; of what it refuses there is no text.
func wantPut(t *testing.T, l []api.Instr, want []byte, why api.Errno, which int) {
	t.Helper()
	if b, err, number := code.Put(l...); !bytes.Equal(b, want) || err != why || number != which {
		t.Errorf("P16.4: Put(%.200v) = % .20x, %d, %d, not % .20x, %d, %d", l, b, int(err), number, want, int(why), which)
	}
	if s := code.Text(l); why != api.OK && s != "" {
		t.Errorf("P16.5: Text(%.200v) = %.200q, though it can't be put", l, s)
	}
}

func wantPutRefused(t *testing.T, why api.Errno, which int, l ...api.Instr) {
	t.Helper()
	wantPut(t, l, nil, why, which)
}

func TestPutOfTheExamples(t *testing.T) {
	wantPutRefused(t, api.ErrArg, 0, api.Instr{At: 1, Op: api.ILoad})
	wantPutRefused(t, api.ErrArg, 0, api.Instr{Op: api.IAdd, A: 1})
	wantPutRefused(t, api.ErrCode, 0, api.Instr{Op: 9, At: 5})
}

func TestPutOfNothing(t *testing.T) {
	wantPut(t, nil, nil, api.OK, 0)
	wantPut(t, []api.Instr{}, nil, api.OK, 0)
	wantPut(t, make([]api.Instr, 0, 3), nil, api.OK, 0)
}

func TestPutOfEachOpcode(t *testing.T) {
	for _, a := range accounts() {
		for _, n := range a.edges() {
			wantPut(t, []api.Instr{a.instr(0, n...)}, a.bytes(n...), api.OK, 0)
			wantPut(t, []api.Instr{{Op: api.IStop}, a.instr(1, n...), {At: 1 + a.size(), Op: api.IAbort}}, slices.Concat([]byte{34}, a.bytes(n...), []byte{35}), api.OK, 0)
		}
	}
}

// TestPutOfWrongNumbers: each of the three numbers on the far sides of its ends, alone.
func TestPutOfWrongNumbers(t *testing.T) {
	for _, a := range accounts() {
		for i := range 3 {
			end := 0
			if i < len(a.wide) {
				end = a.end(i)
			}
			for _, n := range []int{-1, -256, -65536, math.MinInt, end + 1, end + 2, 65536, 65537, 1 << 24, 1 << 32, math.MaxInt} {
				abc := make([]int, 3)
				abc[i] = n
				wantPutRefused(t, api.ErrArg, 0, a.instr(0, abc...))
				wantPutRefused(t, api.ErrArg, 1, api.Instr{Op: api.IStop}, a.instr(1, abc...), api.Instr{At: 9, Op: 9})
			}
			abc := make([]int, 3)
			abc[i] = end
			wantPut(t, []api.Instr{a.instr(0, abc...)}, a.bytes(abc...), api.OK, 0)
		}
	}
}

// TestPutOfWrongOffsets: too low, too high, that of another one.
func TestPutOfWrongOffsets(t *testing.T) {
	for _, a := range accounts() {
		n := make([]int, len(a.wide))
		for _, at := range []int{-1, 1, 2, a.size(), math.MinInt, math.MaxInt, 1 << 32} {
			wantPutRefused(t, api.ErrArg, 0, a.instr(at, n...))
		}
		for _, at := range []int{-1, 0, a.size() - 1, a.size() + 1, 2 * a.size(), 1<<32 + a.size(), math.MinInt, math.MaxInt} {
			if at != a.size() {
				wantPutRefused(t, api.ErrArg, 1, a.instr(0, n...), api.Instr{At: at, Op: api.IStop})
			}
		}
	}
}

// TestPutOfNoOpcodes: ErrCode goes ahead of an offset and of numbers that aren't right; the first one is told.
func TestPutOfNoOpcodes(t *testing.T) {
	for _, op := range others() {
		wantPutRefused(t, api.ErrCode, 0, api.Instr{Op: op})
		wantPutRefused(t, api.ErrCode, 0, api.Instr{Op: op, At: 5, A: -1, B: 256, C: 65536})
		wantPutRefused(t, api.ErrCode, 1, api.Instr{Op: api.IStop}, api.Instr{Op: op})
		wantPutRefused(t, api.ErrArg, 0, api.Instr{Op: api.IStop, At: 1}, api.Instr{Op: op})
		wantPutRefused(t, api.ErrArg, 1, api.Instr{Op: api.IStop}, api.Instr{Op: api.IStop}, api.Instr{Op: op, At: 2})
	}
}

// full is right code of so many bytes: of instructions of five bytes, as many as there may be, and stops behind them.
func full(size int) thing {
	var x thing
	var text []byte
	for len(x.b) < size {
		at := len(x.b)
		a, _ := accountOf(api.IStop)
		var n []int
		if size-at >= 5 {
			a, _ = accountOf(api.IEach)
			n = []int{at % 256, 1, at}
		}
		x.l = append(x.l, a.instr(at, n...))
		x.b = append(x.b, a.bytes(n...)...)
		text = append(text, a.line(at, n...)...)
	}
	x.s = string(text)
	return x
}

func TestPutAtTheLimit(t *testing.T) {
	for _, size := range []int{65530, 65531, 65534, 65535} {
		x := full(size)
		wantPut(t, x.l, x.b, api.OK, 0)
		for _, a := range accounts() {
			more := append(slices.Clone(x.l), a.instr(size, 0, 0, 0))
			if size+a.size() > 65535 {
				wantPutRefused(t, api.ErrLimit, len(x.l), more...)
				wantPutRefused(t, api.ErrLimit, len(x.l), append(more, api.Instr{Op: 9})...)
			} else {
				wantPut(t, more, append(slices.Clone(x.b), a.bytes(0, 0, 0)...), api.OK, 0)
			}
		}
	}
}

// TestPutBeyondTheLimit: the other errors go ahead there, too.
func TestPutBeyondTheLimit(t *testing.T) {
	l := full(65535).l
	for _, x := range []api.Instr{{At: 65534, Op: api.IStop}, {At: 65536, Op: api.IStop}, {Op: api.IStop}, {At: 65535, Op: api.IStop, A: 1}, {At: 65535, Op: api.IEach, C: 65536}} {
		wantPutRefused(t, api.ErrArg, len(l), append(slices.Clone(l), x)...)
	}
	wantPutRefused(t, api.ErrCode, len(l), append(slices.Clone(l), api.Instr{At: 65535, Op: 9})...)
	many := make([]api.Instr, 200000)
	for at := range many {
		many[at] = api.Instr{At: at, Op: api.IStop}
	}
	wantPut(t, many[:65535], bytes.Repeat([]byte{34}, 65535), api.OK, 0)
	wantPutRefused(t, api.ErrLimit, 65535, many...)
	many[65534].A = 1
	wantPutRefused(t, api.ErrArg, 65534, many...)
}
