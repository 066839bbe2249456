package parse

import (
	"strings"
	"testing"

	"tableau/api"
	"tableau/tree"
)

// grouped is the expression's tree with parentheses around all that has a mark, and nothing else.
func grouped(l []api.Node) string {
	s, _ := groupedFirst(l)
	return s
}

func groupedFirst(l []api.Node) (string, []api.Node) {
	n := l[0]
	l = l[1:]
	var kids []string
	for range n.Kids {
		var k string
		k, l = groupedFirst(l)
		kids = append(kids, k)
	}
	switch {
	case n.Op == api.TNot:
		return "(!" + kids[0] + ")", l
	case n.Op == api.TNeg:
		return "(-" + kids[0] + ")", l
	case n.Op == api.TField:
		return "(" + kids[0] + "." + n.Text + ")", l
	case len(kids) == 2:
		marks := strings.Fields("|| && == != < <= > >= + - * / %")
		return "(" + kids[0] + " " + marks[n.Op-api.TOr] + " " + kids[1] + ")", l
	}
	return n.Text, l
}

func wantGrouped(t *testing.T, src, want string) {
	t.Helper()
	n, e, at := Expr(cut(src))
	if e != api.OK || at != 0 {
		t.Errorf("P10.2: %s: %d, %d", src, e, at)
		return
	}
	if got := grouped(n); got != want {
		t.Errorf("P10.2: %s: %s, not %s", src, got, want)
	}
}

func TestRowsLeanToTheLeft(t *testing.T) {
	for _, row := range []string{"||", "&&", "+ -", "* / %"} {
		marks := strings.Fields(row)
		for _, x := range marks {
			for _, y := range marks {
				wantGrouped(t, "a "+x+" b "+y+" c", "((a "+x+" b) "+y+" c)")
				wantGrouped(t, "(a "+x+" b) "+y+" c", "((a "+x+" b) "+y+" c)")
				wantGrouped(t, "a "+x+" (b "+y+" c)", "(a "+x+" (b "+y+" c))")
				for _, z := range marks {
					wantGrouped(t, "a "+x+" b "+y+" c "+z+" d", "(((a "+x+" b) "+y+" c) "+z+" d)")
					wantGrouped(t, "a "+x+" (b "+y+" c "+z+" d)", "(a "+x+" ((b "+y+" c) "+z+" d))")
				}
			}
		}
	}
	wantGrouped(t, "a.b.c.d", "(((a.b).c).d)")
}

func TestWhatBindsMore(t *testing.T) {
	ranks := []string{"||", "&&", "== != < <= > >=", "+ -", "* / %"}
	for i, loose := range ranks {
		for _, tight := range ranks[i+1:] {
			for _, x := range strings.Fields(loose) {
				for _, y := range strings.Fields(tight) {
					wantGrouped(t, "a "+x+" b "+y+" c", "(a "+x+" (b "+y+" c))")
					wantGrouped(t, "a "+y+" b "+x+" c", "((a "+y+" b) "+x+" c)")
					wantGrouped(t, "(a "+x+" b) "+y+" c", "((a "+x+" b) "+y+" c)")
					wantGrouped(t, "a "+y+" (b "+x+" c)", "(a "+y+" (b "+x+" c))")
					wantGrouped(t, "a "+y+" b "+x+" c "+y+" d", "((a "+y+" b) "+x+" (c "+y+" d))")
				}
			}
		}
	}
	for _, x := range strings.Fields("|| &&") {
		wantGrouped(t, "!a "+x+" b", "((!a) "+x+" b)")
		wantGrouped(t, "a "+x+" !b", "(a "+x+" (!b))")
		wantGrouped(t, "!(a "+x+" b)", "(!(a "+x+" b))")
		wantGrouped(t, "!a == b "+x+" !!c < d", "((!(a == b)) "+x+" (!(!(c < d))))")
	}
	for _, x := range strings.Fields("== != < <= > >= + - * / %") {
		wantGrouped(t, "!a "+x+" b", "(!(a "+x+" b))")
		wantGrouped(t, "(!a) "+x+" b", "((!a) "+x+" b)")
		wantGrouped(t, "a "+x+" (!b)", "(a "+x+" (!b))")
	}
	for _, x := range strings.Fields("|| && == != < <= > >= + - * / %") {
		wantGrouped(t, "-a "+x+" b", "((-a) "+x+" b)")
		wantGrouped(t, "a "+x+" -b", "(a "+x+" (-b))")
		wantGrouped(t, "a "+x+" - -b", "(a "+x+" (-(-b)))")
		wantGrouped(t, "-(a "+x+" b)", "(-(a "+x+" b))")
		wantGrouped(t, "a "+x+" b.c", "(a "+x+" (b.c))")
		wantGrouped(t, "a.b "+x+" c", "((a.b) "+x+" c)")
		wantGrouped(t, "(a "+x+" b).c", "((a "+x+" b).c)")
	}
	wantGrouped(t, "-a.b.c", "(-((a.b).c))")
	wantGrouped(t, "(-a).b", "((-a).b)")
	wantGrouped(t, "(!a).b", "((!a).b)")
	wantGrouped(t, "!-a.b", "(!(-(a.b)))")
	wantGrouped(t, "(a == b) == (c == d)", "((a == b) == (c == d))")
	wantGrouped(t, "(a < b) < c", "((a < b) < c)")
	wantGrouped(t, "a || b && !c == d + e * -f.g", "(a || (b && (!(c == (d + (e * (-(f.g))))))))")
	wantGrouped(t, "-a.b * c + d == e && f || g", "((((((-(a.b)) * c) + d) == e) && f) || g)")
}

// TestNeedlessParentheses: they are no nodes, and say nothing but where nodes stand.
func TestNeedlessParentheses(t *testing.T) {
	for src := range expressionTexts() {
		want, e, _ := Expr(cut(src))
		if e != api.OK {
			t.Errorf("P10.2: %s: %d", src, e)
			continue
		}
		for range 3 {
			src = "(" + src + ")"
			got, e, at := Expr(cut(src))
			if e != api.OK || at != 0 || !tree.Same(got, want) {
				t.Errorf("P10.2: %s: %s, %d, %d", src, text(got), e, at)
				continue
			}
			for i := range want {
				want[i].At++
				if got[i].At != want[i].At {
					t.Errorf("P10.2: %s: a node at %d, not at %d", src, got[i].At, want[i].At)
				}
			}
		}
	}
	wantTree(t, "P10.2", Expr, cut("((a)+((b)))*(c)"), "Mul @11(Add @4(Name a @2, Name b @7), Name c @13)")
	wantTree(t, "P10.2", Expr, cut("f((a),((b)))"), "Call f @0(Name a @3, Name b @8)")
}
