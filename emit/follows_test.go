package emit_test

import (
	"bytes"
	"fmt"
	"math/rand"
	"slices"
	"testing"

	"tableau/api"
	"tableau/check"
	"tableau/code"
	"tableau/emit"
)

// wantRight says of an ability's code what the document says that follows: it is read to its end, and what it names is there.
func wantRight(t *testing.T, a api.Ability, b []byte, ints, texts int) {
	t.Helper()
	l, why, at := code.All(b)
	if why != api.OK || len(l) == 0 || l[len(l)-1].Op != api.IStop {
		t.Fatalf("P17.1: code that is not read, or has no stop at its end: %d at %d of % x", int(why), at, b)
	}
	if len(b) > 25*len(a.Tree)+4 || len(b) > api.MaxCode {
		t.Fatalf("P17.1: %d bytes of %d nodes", len(b), len(a.Tree))
	}
	if c, _, _ := code.Put(l...); !bytes.Equal(b, c) {
		t.Fatalf("P17.1: % x is not what its instructions are: % x", b, c)
	}
	offsets := map[int]int{}
	for i, x := range l {
		offsets[x.At] = i
	}
	for _, x := range l {
		ok, goes := true, -1
		switch x.Op {
		case api.IPush:
			ok = x.A < ints
		case api.IIs:
			ok = x.A < texts
		case api.ILoad, api.IStore:
			ok = x.A < len(a.Slots)
		case api.IEach:
			ok = x.A < len(a.Slots) && x.B < len(a.Slots) && a.Slots[x.A] == api.KList && a.Slots[x.B] == api.KInt
			goes = x.C
		case api.IJump, api.IUnless, api.IChoose:
			goes = x.A
		case api.IEq:
			ok = api.KInt <= int8(x.A) && int8(x.A) <= api.KZone
		}
		if _, there := offsets[goes]; goes >= 0 && !there {
			ok = false
		}
		if !ok {
			t.Fatalf("P17.1: %v in %s, of %v", x, told(b), a)
		}
	}
}

// TestAbilitiesByChance holds Able against the document's account, with the fewest ints and texts, and with more.
func TestAbilitiesByChance(t *testing.T) {
	r := rand.New(rand.NewSource(17))
	ops := map[string]int{}
	for range 3000 {
		a := grown(r)
		if !check.Able(a) {
			t.Fatalf("it may not be: %v", a)
		}
		ints, texts := wantsOf(a.Tree)
		r.Shuffle(len(ints), func(i, j int) { ints[i], ints[j] = ints[j], ints[i] })
		for range r.Intn(3) {
			ints, texts = append(ints, r.Int63n(9)-4), slices.Insert(texts, r.Intn(len(texts)+1), fmt.Sprint(r.Intn(9)))
		}
		want := accountOf(a, ints, texts)
		wantCode(t, fmt.Sprint(a), a, ints, texts, want)
		wantRight(t, a, want, len(ints), len(texts))
		for _, n := range a.Tree {
			ops[fmt.Sprint(n.Op, " ", n.Op == api.TCall || n.Op == api.TIf || n.Op == api.TChoose || n.Op == api.TDo, " ", n.Kids)]++
			if n.Op == api.TCall || n.Op == api.TField || n.Op == api.TDo {
				ops[fmt.Sprint(n.Op, " number ", n.N)]++
			}
		}
		// What is wanted and no longer there is missed, wherever it stood.
		if len(ints) > 0 {
			all, _ := wantsOf(a.Tree)
			gone := ints[r.Intn(len(ints))]
			less := slices.DeleteFunc(slices.Clone(ints), func(n int64) bool { return n == gone })
			if slices.Contains(all, gone) {
				wantRefused(t, fmt.Sprint(a, " without ", gone), a, less, texts, api.ErrPool)
			}
		}
	}
	for n := range 9 {
		if ops[fmt.Sprint(api.TCall, " number ", n)] < 50 || ops[fmt.Sprint(api.TDo, " number ", n)] < 50 {
			t.Errorf("too few of the function, or the effect %d: %v", n, ops)
		}
	}
	for op := api.TNum; op <= api.TText; op++ {
		few := true
		for kids := range 3 {
			few = few && ops[fmt.Sprint(op, " ", op == api.TCall, " ", kids)] < 50
		}
		if few {
			t.Errorf("too few of the node %d: %v", op, ops)
		}
	}
}

// TestPacksByChance holds Pack and Pools against the document's account, and each code against what Able says with the pools of the pack.
func TestPacksByChance(t *testing.T) {
	r := rand.New(rand.NewSource(18))
	for range 500 {
		l := grownDesigns(r)
		p := wantPack(t, fmt.Sprint(l), l, 1+r.Intn(256), api.OK)
		wantPools(t, fmt.Sprint(l), l, p.Ints, p.Texts)
		for i, k := range p.Kinds {
			for j, e := range k.Effects {
				b, why := emit.Able(l[i].Able[j], p.Ints, p.Texts)
				if why != api.OK || !bytes.Equal(b, e.Code) {
					t.Fatalf("P17.3: with the pools of the pack %v has %s (%d), in it %s", l[i].Able[j], told(b), int(why), told(e.Code))
				}
				wantRight(t, l[i].Able[j], b, len(p.Ints), len(p.Texts))
			}
		}
	}
}

// TestGreatestIsRight says of the greatest abilities what follows of all of them.
func TestGreatestIsRight(t *testing.T) {
	for what, grow := range growths {
		a := grow(2000)
		b, why := emit.Able(a, []int64{5}, nil)
		if why != api.OK {
			t.Errorf("P17.1: %s: %d", what, int(why))
		}
		wantRight(t, a, b, 1, 0)
	}
}

// TestMostBytes is an ability whose nodes have as many bytes as nodes may have.
func TestMostBytes(t *testing.T) {
	a := able(t, "on play { repeat 255 as i { } }")
	b, _ := emit.Able(a, []int64{0, 1, 255}, nil)
	if len(b) != 26 {
		t.Errorf("P17.1: %s", told(b))
	}
	a = able(t, "on play when true { repeat 255 as i { repeat 255 as j { } } }")
	b, _ = emit.Able(a, []int64{0, 1, 255}, nil)
	if len(b) != 1+3+25+25+1 {
		t.Errorf("P17.1: %s", told(b))
	}
}

// TestBentAbilities is abilities that have been changed: those that may not be are refused, ahead of what is missing.
func TestBentAbilities(t *testing.T) {
	r := rand.New(rand.NewSource(19))
	ends := map[api.Errno]int{}
	for range 6000 {
		a := bent(r, grown(r))
		ints, texts := wantsOf(a.Tree)
		if r.Intn(3) == 0 {
			ints, texts = nil, nil
		}
		b, why := emit.Able(a, ints, texts)
		ends[why]++
		i, s := wantsOf(a.Tree)
		switch {
		case !check.Able(a):
			wantRefused(t, fmt.Sprint(a), a, ints, texts, api.ErrArg)
		case len(i) > len(ints) || len(s) > len(texts):
			wantRefused(t, fmt.Sprint(a), a, ints, texts, api.ErrPool)
		case why != api.OK || !bytes.Equal(b, accountOf(a, ints, texts)):
			t.Errorf("P17.1: %v: %d, %s", a, int(why), told(b))
		}
		d := []api.Design{{Name: "a"}, {Name: "b", Able: []api.Ability{a}}}
		i, s = poolsOf(d)
		wantPools(t, fmt.Sprint(d), d, i, s)
		if check.Able(a) {
			wantPack(t, fmt.Sprint(d), d, 1, api.OK)
		} else {
			wantPack(t, fmt.Sprint(d), d, 1, api.ErrArg)
		}
		if t.Failed() {
			return
		}
	}
	for _, why := range []api.Errno{api.OK, api.ErrArg, api.ErrPool} {
		if ends[why] < 200 {
			t.Errorf("%d end with %d: too few", ends[why], int(why))
		}
	}
	t.Log(ends)
}
