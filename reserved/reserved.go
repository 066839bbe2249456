// Package reserved tells which names are the language's own words, for the layers that ask for free names.
package reserved

// Word tells whether the name is one of the words.
func Word(name string) bool {
	switch name {
	case "card", "cost", "power", "health", "tag", "on", "when", "let", "if", "else", "repeat", "as", "each", "in", "choose",
		"stop", "abort", "true", "false", "self", "me", "deck", "hand", "board", "grave", "play", "die", "hit", "turn", "draw":
		return true
	}
	return false
}
