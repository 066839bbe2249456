package emit_test

import (
	"fmt"
	"math/rand"
	"slices"
	"testing"
	"unsafe"

	"tableau/api"
	"tableau/emit"
)

// odd is a node that no ability has.
var odd = api.Node{Op: -9, Kind: -9, N: -9, M: -9, Text: "odd", At: -9, Kids: -9}

// roomy is the list with three things of spare room behind it.
func roomy[T any](l []T, filled T) []T {
	more := append(slices.Clone(l), filled, filled, filled)
	return more[: len(l) : len(l)+3]
}

// spare is what stands in the list's spare room, as a text.
func spare[T any](l []T) string { return fmt.Sprint(l[len(l):cap(l)]) }

// spoil writes over the list and its spare room.
func spoil[T any](l []T, with T) {
	for i := range l[:cap(l)] {
		l[:cap(l)][i] = with
	}
}

// things: what is handed in.
type things struct {
	designs []api.Design
	ints    []int64
	texts   []string
}

// inRoom is the same with spare room behind each list, all in memory of its own.
func (x things) inRoom() things {
	y := things{nil, roomy(x.ints, 77), roomy(x.texts, "odd")}
	for _, d := range x.designs {
		d.Tags = roomy(d.Tags, "odd")
		l := d.Able
		d.Able = nil
		for _, a := range l {
			a.Slots, a.Tree = roomy(a.Slots, 9), roomy(a.Tree, odd)
			d.Able = append(d.Able, a)
		}
		d.Able = roomy(d.Able, api.Ability{Slots: []int8{9}, Tree: []api.Node{odd}})
		y.designs = append(y.designs, d)
	}
	y.designs = roomy(y.designs, api.Design{Name: "odd", Tags: []string{"odd", "odd"}})
	return y
}

// tell is all that was handed in, spare room too.
func (x things) tell() string {
	s := fmt.Sprint(x, spare(x.designs), spare(x.ints), spare(x.texts))
	for _, d := range x.designs {
		s += fmt.Sprint(spare(d.Tags), spare(d.Able))
		for _, a := range d.Able {
			s += fmt.Sprint(spare(a.Slots), spare(a.Tree))
		}
	}
	return s
}

// spoil writes over all that was handed in.
func (x things) spoil() {
	for _, d := range x.designs {
		for _, a := range d.Able {
			spoil(a.Slots, -7)
			spoil(a.Tree, odd)
		}
		spoil(d.Tags, "spoilt")
		spoil(d.Able, api.Ability{On: -7})
	}
	spoil(x.designs, api.Design{Cost: -7})
	spoil(x.ints, -7)
	spoil(x.texts, "spoilt")
}

// answers: what comes out.
type answers struct {
	codes [][]byte
	whys  []api.Errno
	ints  []int64
	texts []string
	pack  api.Pack
	why   api.Errno
}

// answersOf calls all that can be called.
func answersOf(x things) answers {
	var y answers
	for _, d := range x.designs {
		for _, a := range d.Able {
			b, why := emit.Able(a, x.ints, x.texts)
			y.codes, y.whys = append(y.codes, b), append(y.whys, why)
		}
	}
	y.ints, y.texts = emit.Pools(x.designs)
	y.pack, y.why = emit.Pack(x.designs, 9)
	return y
}

// spoilers write over one list each of the answers.
func (y answers) spoilers() []func() {
	l := []func(){func() { spoil(y.ints, -7) }, func() { spoil(y.texts, "spoilt") }, func() { spoil(y.pack.Ints, -7) }, func() { spoil(y.pack.Texts, "spoilt") }}
	for _, b := range y.codes {
		l = append(l, func() { spoil(b, 99) })
	}
	for _, k := range y.pack.Kinds {
		l = append(l, func() { spoil(k.Tags, -7) })
		for _, e := range k.Effects {
			l = append(l, func() { spoil(e.Slots, -7) }, func() { spoil(e.Code, 99) })
		}
		l = append(l, func() { spoil(k.Effects, api.Effect{On: -7}) })
	}
	return append(l, func() { spoil(y.pack.Kinds, api.Kind{Name: -7}) })
}

// given is what is handed in: designs that may be, and some that may not, with ints and texts that are enough, or not.
func given(t *testing.T) []things {
	r := rand.New(rand.NewSource(20))
	l := []things{{}, {designs: []api.Design{{Cost: -1}}}, {designs: []api.Design{{Able: make([]api.Ability, 2)}}}, {designs(t, `card "a" { on play { mark(self, 5); } } card "b" { tag "z"; tag "a"; }`), []int64{5}, nil}}
	for range 60 {
		x := things{designs: grownDesigns(r)}
		x.ints, x.texts = poolsOf(x.designs)
		if r.Intn(4) == 0 {
			x.ints = nil
		}
		l = append(l, x)
	}
	return l
}

func TestWhatIsHandedInStays(t *testing.T) {
	for _, x := range given(t) {
		x = x.inRoom()
		before := x.tell()
		y := answersOf(x)
		if after := x.tell(); after != before {
			t.Fatalf("P17.4: changed by the calls: %.1000s, once %.1000s", after, before)
		}
		for _, spoil := range y.spoilers() {
			spoil()
		}
		if after := x.tell(); after != before {
			t.Fatalf("P17.4: the answers share memory with what was handed in: %.1000s, once %.1000s", after, before)
		}
	}
}

// TestSpareRoom says that what stands behind a list is no part of it.
func TestSpareRoom(t *testing.T) {
	for _, x := range given(t) {
		if got, want := fmt.Sprint(answersOf(x.inRoom())), fmt.Sprint(answersOf(x)); got != want {
			t.Fatalf("P17.4: with spare room %.1000s, not %.1000s", got, want)
		}
	}
}

// TestAnswersStay says that what was handed in may be written over behind the calls.
func TestAnswersStay(t *testing.T) {
	for _, x := range given(t) {
		x = x.inRoom()
		y := answersOf(x)
		want := fmt.Sprint(y)
		x.spoil()
		if got := fmt.Sprint(y); got != want {
			t.Fatalf("P17.4: what was handed in is kept: %.1000s, once %.1000s", got, want)
		}
	}
}

// TestTextsStay says the same of texts whose bytes are written over.
func TestTextsStay(t *testing.T) {
	bytes := []byte("abcdefgh")
	text := func(from, to int) string { return unsafe.String(&bytes[from], to-from) }
	a := does(op(api.Node{Op: api.TIf}, asks(text(5, 8)), block()))
	l := []api.Design{{Name: text(0, 2), Tags: []string{text(2, 4), text(4, 5)}, Able: []api.Ability{a}}}
	ints, texts := emit.Pools(l)
	p, why := emit.Pack(l, 1)
	copy(bytes, "########")
	if got := fmt.Sprint(ints, texts, p.Texts, int(why)); got != "[] [ab cd e fgh] [ab cd e fgh] 0" {
		t.Errorf("P17.4: texts are kept: %s", got)
	}
}

// TestListsOfAnswers says that no list of an answer shares memory with another one, nor with those of another answer.
func TestListsOfAnswers(t *testing.T) {
	for _, x := range given(t) {
		first := answersOf(x)
		want := fmt.Sprint(first)
		for _, spoil := range answersOf(x).spoilers() {
			spoil()
			if got := fmt.Sprint(first); got != want {
				t.Fatalf("P17.4: two answers share memory: %.1000s, once %.1000s", got, want)
			}
		}
		if got := fmt.Sprint(answersOf(x)); got != want {
			t.Fatalf("P17.4: a later answer is another one: %.1000s, once %.1000s", got, want)
		}
		wantApart(t, first)
	}
}

// wantApart says that each list of the answers, with its spare room, lies behind or ahead of each other one.
func wantApart(t *testing.T, y answers) {
	t.Helper()
	var spans [][2]uintptr
	add := func(start unsafe.Pointer, size int) {
		if size > 0 {
			spans = append(spans, [2]uintptr{uintptr(start), uintptr(start) + uintptr(size)})
		}
	}
	for _, b := range y.codes {
		add(unsafe.Pointer(unsafe.SliceData(b)), cap(b))
	}
	for _, l := range [][]int64{y.ints, y.pack.Ints} {
		add(unsafe.Pointer(unsafe.SliceData(l)), 8*cap(l))
	}
	for _, l := range [][]string{y.texts, y.pack.Texts} {
		add(unsafe.Pointer(unsafe.SliceData(l)), 16*cap(l))
	}
	for _, k := range y.pack.Kinds {
		add(unsafe.Pointer(unsafe.SliceData(k.Tags)), 8*cap(k.Tags))
		for _, e := range k.Effects {
			add(unsafe.Pointer(unsafe.SliceData(e.Slots)), cap(e.Slots))
			add(unsafe.Pointer(unsafe.SliceData(e.Code)), cap(e.Code))
		}
	}
	slices.SortFunc(spans, func(a, b [2]uintptr) int { return int(int64(a[0]) - int64(b[0])) })
	for i := 1; i < len(spans); i++ {
		if spans[i][0] < spans[i-1][1] {
			t.Fatalf("P17.4: two lists of the answers share memory: %v", y)
		}
	}
}

// TestNilAndEmpty says that a list that is nil and one that is empty are the same.
func TestNilAndEmpty(t *testing.T) {
	card := func(tags []string, able []api.Ability) []api.Design { return []api.Design{{Tags: tags, Able: able}} }
	bare := []api.Ability{does()}
	want := fmt.Sprint(answersOf(things{designs: card(nil, bare)}))
	for _, x := range []things{
		{card([]string{}, bare), []int64{}, []string{}}, {card(make([]string, 0, 5), bare), make([]int64, 0, 5), make([]string, 0, 5)},
	} {
		if got := fmt.Sprint(answersOf(x)); got != want {
			t.Errorf("P17.4: of empty lists %s, of none %s", got, want)
		}
	}
	none := fmt.Sprint(answersOf(things{}))
	if got := fmt.Sprint(answersOf(things{designs: []api.Design{}})); got != none {
		t.Errorf("P17.4: of no designs %s, not %s", got, none)
	}
	none = fmt.Sprint(answersOf(things{designs: card(nil, nil)}))
	if got := fmt.Sprint(answersOf(things{designs: card(nil, make([]api.Ability, 0, 3))})); got != none {
		t.Errorf("P17.4: of no abilities %s, not %s", got, none)
	}
	for _, a := range []api.Ability{{}, {Slots: []int8{}, Tree: []api.Node{}}, {Slots: make([]int8, 0, 3), Tree: make([]api.Node, 0, 3)}} {
		wantRefused(t, "nothing", a, nil, nil, api.ErrArg)
	}
}

// TestOrderOfCalls says that calls know nothing of each other.
func TestOrderOfCalls(t *testing.T) {
	l := given(t)
	var want []string
	for _, x := range l {
		want = append(want, fmt.Sprint(answersOf(x)))
	}
	for _, i := range rand.New(rand.NewSource(21)).Perm(len(l)) {
		if got := fmt.Sprint(answersOf(l[i])); got != want[i] {
			t.Fatalf("P17.4: later %.1000s, not %.1000s", got, want[i])
		}
	}
}
