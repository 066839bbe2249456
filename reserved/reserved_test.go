package reserved

import (
	"strings"
	"testing"
)

func TestWords(t *testing.T) {
	words := strings.Fields("card cost power health tag on when let if else repeat as each in choose stop abort true false self me deck hand board grave play die hit turn draw")
	for _, w := range words {
		if !Word(w) {
			t.Errorf("chapter 9: %s is a word", w)
		}
		for _, s := range []string{w + "s", w[1:], w[:len(w)-1], strings.ToUpper(w), " " + w, w + "_"} {
			// The word's head may be one, too: of none of the words it is but of these.
			if Word(s) && !strings.Contains(" on me ", " "+s+" ") {
				t.Errorf("chapter 9: %q is no word", s)
			}
		}
	}
	for _, s := range []string{"", "x", "zone", "next", "move", "count", "pack", "and", "Card"} {
		if Word(s) {
			t.Errorf("chapter 9: %q is no word", s)
		}
	}
}
