package kinds

import (
	"slices"
	"testing"
)

// spoil fills the signs and what they take, spare room too; each list with a number of its own, so that lists that share memory are seen.
func spoil(l []Sign, from int8) {
	for i, s := range l[:cap(l)] {
		for j := range s.Args[:cap(s.Args)] {
			s.Args[:cap(s.Args)][j] = from - int8(i)
		}
		l[:cap(l)][i] = Sign{Name: "spoiled", Tell: from}
	}
}

// wantLists holds the lists, and what is found by name, against the document.
func wantLists(t *testing.T, got [][]Sign) {
	t.Helper()
	for i, l := range lists() {
		for j, want := range l.rows {
			wantSign(t, "P12.1 (R5)", l.what, got[i][j], want)
			_, s, _ := l.find(want.name)
			wantSign(t, "P12.2 (R5)", l.what, s, want)
		}
	}
}

func all() [][]Sign {
	return [][]Sign{Fields(), Funcs(), Effects()}
}

func TestListsHaveTheirOwnMemory(t *testing.T) {
	kept := all()
	for i, l := range all() {
		spoil(l, -20-20*int8(i))
		wantLists(t, kept)
		wantLists(t, all())
	}
}

// Of one list no two signs share what they take.
func TestSignsOfAListHaveTheirOwnMemory(t *testing.T) {
	for i, l := range lists() {
		got := l.all()
		for j := range got {
			args := got[j].Args[:cap(got[j].Args)]
			for k := range args {
				args[k] = -9
			}
			for k := j + 1; k < len(got); k++ {
				if !slices.Equal(got[k].Args, l.rows[k].args) {
					t.Fatalf("P12.1: what %s takes is changed with what %s takes, list %d (R5)", got[k].Name, got[j].Name, i)
				}
			}
		}
	}
}

func TestWhatIsFoundHasItsOwnMemory(t *testing.T) {
	kept := all()
	for _, l := range lists() {
		for _, r := range l.rows {
			_, first, _ := l.find(r.name)
			_, second, _ := l.find(r.name)
			spoil([]Sign{first}, -30)
			wantSign(t, "P12.2 (R5)", l.what, second, r)
			_, third, _ := l.find(r.name)
			wantSign(t, "P12.2 (R5)", l.what, third, r)
		}
	}
	wantLists(t, kept)
	wantLists(t, all())
}

// R6: what was asked before changes no answer, and a Gas knows nothing of what it was asked.
func TestAnswersStay(t *testing.T) {
	_, s, _ := Effect("shuffle")
	for _, n := range []int{5, -1, 1 << 62, 5, 0, 5} {
		s.Gas(n)
		for _, name := range []string{"", "wave", "cards", "shuffle", "draw"} {
			Field(name)
			Func(name)
			Effect(name)
		}
		if s.Gas(5) != 6 {
			t.Fatalf("P12: Gas(5) of shuffle behind Gas(%d): %d (R6)", n, s.Gas(5))
		}
	}
	wantLists(t, all())
}
