package code_test

import (
	"testing"

	"tableau/api"
	"tableau/code"
)

func TestSizeAndNameOfEachByte(t *testing.T) {
	for b := range 256 {
		a, ok := accountOf(byte(b))
		size := 0
		if ok {
			size = a.size()
		}
		if got := code.Size(byte(b)); got != size {
			t.Errorf("P16.1: Size(%d) = %d, not %d", b, got, size)
		}
		if got := code.Name(byte(b)); got != a.name {
			t.Errorf("P16.1: Name(%d) = %q, not %q", b, got, a.name)
		}
	}
}

func TestSizeAndNameOfTheExamples(t *testing.T) {
	for op, want := range map[byte]int{1: 3, 32: 5, 34: 1, 0: 0, 6: 0, 61: 0} {
		if got := code.Size(op); got != want {
			t.Errorf("P16.1: Size(%d) = %d, not %d", op, got, want)
		}
	}
	for op, want := range map[byte]string{60: "do", 9: ""} {
		if got := code.Name(op); got != want {
			t.Errorf("P16.1: Name(%d) = %q, not %q", op, got, want)
		}
	}
}

// TestOpcodesOfTheApi: api's constants are the opcodes of those names.
func TestOpcodesOfTheApi(t *testing.T) {
	for op, want := range map[byte]string{
		api.IPush: "push", api.ITrue: "true", api.IFalse: "false", api.ILoad: "load", api.IStore: "store",
		api.IAdd: "add", api.ISub: "sub", api.IMul: "mul", api.IDiv: "div", api.IRem: "rem", api.INeg: "neg", api.IAbs: "abs", api.IMin: "min", api.IMax: "max",
		api.ILt: "lt", api.ILe: "le", api.IGt: "gt", api.IGe: "ge", api.INot: "not", api.IEq: "eq",
		api.IJump: "jump", api.IUnless: "unless", api.IEach: "each", api.IChoose: "choose", api.IStop: "stop", api.IAbort: "abort",
		api.INext: "next", api.IZone: "zone", api.IRandom: "random", api.ITop: "top", api.IHas: "has", api.IIs: "is", api.IField: "field", api.IDo: "do",
	} {
		if got := code.Name(op); got != want {
			t.Errorf("P16.1: Name(%d) = %q, not %q", op, got, want)
		}
	}
}

func TestNoTwoOpcodesHaveOneName(t *testing.T) {
	seen := map[string]int{}
	for b := range 256 {
		name := code.Name(byte(b))
		if other, twice := seen[name]; twice && name != "" {
			t.Errorf("P16.1: %d and %d are both %q", other, b, name)
		}
		seen[name] = b
		if (name == "") != (code.Size(byte(b)) == 0) {
			t.Errorf("P16.1: %d has the name %q, and %d bytes", b, name, code.Size(byte(b)))
		}
	}
	if len(seen) != 34+1 {
		t.Errorf("P16.1: there are %d names", len(seen)-1)
	}
}
