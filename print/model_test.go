package print

import (
	"strconv"
	"strings"

	"tableau/api"
)

// An own account of what the document says: rows as lists of texts, which go one step in where a block or a card is about them; expressions by the ranks of chapter 9.

func modelSource(p plant) string {
	var b strings.Builder
	for _, c := range p.kids {
		for _, row := range modelRows(c) {
			b.WriteString(row + "\n")
		}
	}
	return b.String()
}

// modelBlock is a row's text with a block behind it; the last row is the bracket that closes it.
func modelBlock(head string, kids []plant) []string {
	l := []string{head + " {"}
	for _, k := range kids {
		for _, row := range modelRows(k) {
			l = append(l, "\t"+row)
		}
	}
	return append(l, "}")
}

// glued lets the last row go on with the first one of what follows.
func glued(l []string, between string, more []string) []string {
	l[len(l)-1] += between + more[0]
	return append(l, more[1:]...)
}

func modelRows(p plant) []string {
	n := strconv.FormatInt(p.N, 10)
	expr := func() string { return modelExpr(p.kids[0], 1) }
	switch p.Op {
	case api.TCard:
		return modelBlock("card "+modelText(p.Text), p.kids)
	case api.TCost, api.TPower, api.THealth:
		return []string{strings.Fields("cost power health")[p.Op-api.TCost] + " " + n + ";"}
	case api.TTag:
		return []string{"tag " + modelText(p.Text) + ";"}
	case api.TOn:
		head := "on " + strings.Fields("play die hit turn draw")[p.N]
		if len(p.kids) == 2 {
			head += " when " + expr()
		}
		return modelBlock(head, p.kids[len(p.kids)-1].kids)
	case api.TLet:
		return []string{"let " + p.Text + " = " + expr() + ";"}
	case api.TSet:
		return []string{p.Text + " = " + expr() + ";"}
	case api.TRepeat:
		return modelBlock("repeat "+n+" as "+p.Text, p.kids[0].kids)
	case api.TStop:
		return []string{"stop;"}
	case api.TAbort:
		return []string{"abort;"}
	case api.TDo:
		return []string{modelCall(p) + ";"}
	}
	head := map[int8]string{api.TIf: "if ", api.TEach: "each " + p.Text + " in ", api.TChoose: "choose " + p.Text + " in "}[p.Op]
	l := modelBlock(head+expr(), p.kids[1].kids)
	if len(p.kids) < 3 {
		return l
	}
	if p.kids[2].Op == api.TIf {
		return glued(l, " else ", modelRows(p.kids[2]))
	}
	return glued(l, "", modelBlock(" else", p.kids[2].kids))
}

func modelText(s string) string {
	return `"` + strings.NewReplacer(`"`, `\"`, `\`, `\\`).Replace(s) + `"`
}

func modelCall(p plant) string {
	var l []string
	for _, k := range p.kids {
		l = append(l, modelExpr(k, 1))
	}
	return p.Text + "(" + strings.Join(l, ", ") + ")"
}

// modelRank: the levels of the grammar, from the loosest one on; what is of none of them is an item.
func modelRank(op int8) int {
	for rank, ops := range [][]int8{{}, {api.TOr}, {api.TAnd}, {api.TNot}, {api.TEq, api.TNe, api.TLt, api.TLe, api.TGt, api.TGe}, {api.TAdd, api.TSub}, {api.TMul, api.TDiv, api.TRem}, {api.TNeg}} {
		for _, o := range ops {
			if o == op {
				return rank
			}
		}
	}
	return 8
}

func modelExpr(p plant, wanted int) string {
	rank := modelRank(p.Op)
	if rank < wanted {
		return "(" + modelExpr(p, 1) + ")"
	}
	switch p.Op {
	case api.TNum:
		return strconv.FormatInt(p.N, 10)
	case api.TTrue:
		return "true"
	case api.TFalse:
		return "false"
	case api.TName:
		return p.Text
	case api.TNot:
		return "!" + modelExpr(p.kids[0], 3)
	case api.TNeg:
		return "-" + modelExpr(p.kids[0], 7)
	case api.TField:
		return modelExpr(p.kids[0], 8) + "." + p.Text
	case api.TCall:
		return modelCall(p)
	case api.TWord:
		return strings.Fields("deck hand board grave")[p.N]
	case api.TText:
		return modelText(p.Text)
	}
	left := rank
	if rank == 4 {
		left++ // a comparison's sides are sums, and no row
	}
	mark := strings.Fields("|| && == != < <= > >= + - * / %")[p.Op-api.TOr]
	return modelExpr(p.kids[0], left) + " " + mark + " " + modelExpr(p.kids[1], rank+1)
}
