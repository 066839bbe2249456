package check

import (
	"strconv"
	"strings"
	"testing"

	"tableau/api"
)

const list = "self.place.cards"

// lets declares so many variables, a0, a1 and so on.
func lets(many int) string {
	var b strings.Builder
	for i := range many {
		b.WriteString("let a" + strconv.Itoa(i) + " = me; ")
	}
	return b.String()
}

func TestNamesOfCards(t *testing.T) {
	wantFault(t, `card "A" { } @card "A" { }`, api.ErrTwice)
	wantFault(t, `card "A" { } card "B" { } @card "A" { cost 1000000001; }`, api.ErrTwice)
	wantFault(t, `card "" { } card "A" { } @card "" { }`, api.ErrTwice)
	wantFault(t, `card "B" { cost 1; @cost 1; } card "B" { }`, api.ErrTwice)
	wantOK(t, `card "A" { } card "a" { } card "A " { } card " A" { } card "" { } card "AA" { tag "A"; } card "x" { tag "AA"; tag "x"; }`)
}

// cards is so many cards, each with another name.
func cards(many int) string {
	var b strings.Builder
	for i := range many {
		b.WriteString(`card "` + strconv.Itoa(i) + `" { } `)
	}
	return b.String()
}

func TestHowManyCards(t *testing.T) {
	if d := wantOK(t, cards(256)); len(d) != 256 || d[255].Name != "255" {
		t.Errorf("P13.1: 256 cards: %d designs", len(d))
	}
	last := ` card "last" { } card "later" { }`
	for _, src := range []string{cards(256) + "@" + last[1:], cards(256) + `@card "0" { }` + last, cards(256) + `@card "x" { cost 1; cost 1; }`} {
		plain, at := unmarked(t, src)
		wantRefused(t, "257 cards", parsed(t, plain), api.ErrSize, at)
	}
	plain, at := unmarked(t, cards(255)+`@card "7" { }`+last)
	wantRefused(t, "a name twice ahead of 257 cards", parsed(t, plain), api.ErrTwice, at)
	plain, at = unmarked(t, cards(255)+`card "x" { cost 1; @cost 2; }`+last)
	wantRefused(t, "a line twice ahead of 257 cards", parsed(t, plain), api.ErrTwice, at)
}

func TestNumbersOfCards(t *testing.T) {
	for _, word := range []string{"cost", "power", "health"} {
		for _, n := range []string{"0", "1", "999999999", "1000000000"} {
			wantOK(t, `card "A" { `+word+" "+n+`; } card "B" { `+word+" "+n+`; }`)
			for _, m := range []string{"0", "1", "1000000000", "1000000001", "9223372036854775807"} {
				wantFault(t, `card "A" { `+word+" "+n+"; @"+word+" "+m+"; }", api.ErrTwice)
				wantFault(t, `card "A" { tag "x"; `+word+" "+n+`; on play { } tag "y"; @`+word+" "+m+"; }", api.ErrTwice)
			}
		}
		for _, n := range []string{"1000000001", "4294967296", "9223372036854775807"} {
			wantFault(t, `card "A" { @`+word+" "+n+"; "+word+" 1; }", api.ErrSize)
			wantFault(t, `card "A" { tag "x"; on play { } @`+word+" "+n+"; }", api.ErrSize)
		}
	}
	wantOK(t, `card "A" { cost 1; power 1; health 1; } card "B" { health 1; power 1; cost 1; } card "C" { power 0; cost 0; health 0; }`)
	wantFault(t, `card "A" { cost 1; power 1; health 1; } card "B" { health 1; power 1; cost 1; @power 1; health 1; }`, api.ErrTwice)
}

// tags is so many tag lines, each of another tag.
func tags(many int) string {
	var b strings.Builder
	for i := range many {
		b.WriteString(`tag "` + strconv.Itoa(i) + `"; `)
	}
	return b.String()
}

func TestTags(t *testing.T) {
	wantFault(t, `card "A" { tag "x"; @tag "x"; }`, api.ErrTwice)
	wantFault(t, `card "A" { tag ""; cost 1; tag "x"; @tag ""; }`, api.ErrTwice)
	wantFault(t, `card "A" { tag "x"; } card "B" { tag "x"; tag "y"; on play { } @tag "x"; }`, api.ErrTwice)
	wantOK(t, `card "A" { tag "x"; tag "X"; tag "x "; tag ""; tag "A"; } card "B" { tag "x"; tag "A"; }`)
	if d := wantOK(t, `card "A" { `+tags(16)+`} card "B" { `+tags(16)+`}`); len(d) != 2 || len(d[0].Tags) != 16 || len(d[1].Tags) != 16 {
		t.Errorf("P13.1: 16 tags: %v", d)
	}
	wantFault(t, `card "A" { `+tags(16)+`@tag "x"; }`, api.ErrSize)
	wantFault(t, `card "A" { `+tags(16)+`cost 1; on play { } @tag "x"; tag "y"; }`, api.ErrSize)
	wantFault(t, `card "A" { `+tags(16)+`@tag "3"; }`, api.ErrTwice)
	wantFault(t, `card "A" { `+tags(15)+`@tag "3"; }`, api.ErrTwice)
	wantFault(t, `card "B" { `+tags(16)+` } card "A" { `+tags(16)+`@tag "x"; }`, api.ErrSize)
}

func TestHowManyAbilities(t *testing.T) {
	on := "on play { } "
	wantOK(t, `card "A" { `+strings.Repeat(on, 8)+`} card "B" { `+strings.Repeat(on, 8)+`cost 1; }`)
	wantFault(t, `card "A" { `+strings.Repeat(on, 8)+"@"+on+on+`}`, api.ErrSize)
	wantFault(t, `card "A" { on die when true { stop; } cost 1; `+strings.Repeat(on, 7)+`tag "x"; @on hit { wave(); } }`, api.ErrSize)
	wantFault(t, `card "A" { `+strings.Repeat(on, 7)+`on hit { @wave(); } `+on+`}`, api.ErrCall)
}

// heavy is statements of so many nodes.
func heavy(nodes int) string {
	return strings.Repeat("draw(me); ", nodes/2) + strings.Repeat("stop; ", nodes%2)
}

func TestHowHeavyAbilitiesAre(t *testing.T) {
	// A block is a node of its own.
	wantOK(t, `card "A" { `+strings.Repeat("on play { "+heavy(1999)+"} ", 3)+`}`)
	wantOK(t, `card "A" { on play when true { `+heavy(1998)+`} on die when me.out { `+heavy(1997)+`} }`)
	wantFault(t, `card "A" { @on play { `+heavy(2000)+`} }`, api.ErrSize)
	wantFault(t, `card "A" { on play { } @on play { `+heavy(2001)+`} }`, api.ErrSize)
	wantFault(t, `card "A" { on play { `+heavy(1999)+`} @on die when true { `+heavy(1999)+`} }`, api.ErrSize)
	wantFault(t, `card "A" { @on play when me.out { `+heavy(1998)+`} }`, api.ErrSize)
	wantFault(t, `card "A" { @on play when 1 { wave(); `+heavy(2000)+`} }`, api.ErrSize)
	wantFault(t, `card "A" { on play { `+heavy(1996)+`draw(@1); stop; } }`, api.ErrType)
}

func TestConditions(t *testing.T) {
	for _, x := range []string{"@1", "@self", "@me", "self.@place", "self.place.@cards", "1 @+ 1", "@-1", "me.@life", "@zone(me, deck)", "@random(1)", "@next(me)", "@top(self.place)", "(@1)", "(1 @- 1)"} {
		wantFault(t, when(x), api.ErrType)
		wantFault(t, in("if "+x+" { wave(); }"), api.ErrType)
		wantFault(t, in("if true { } else if "+x+" { wave(); }"), api.ErrType)
		wantFault(t, in("if false { } else if true { } else if "+x+" { wave(); } else { hit(); }"), api.ErrType)
	}
	for _, x := range []string{"true", "false", "me.out", "!true", "1 < 2", "self == self", "me != me", "self.place == self.place", "true == false", "has(self.place.cards, self)", `is(self, "x")`, "true && false || true", "(true)"} {
		wantOK(t, when(x))
		wantOK(t, in("if "+x+" { } else if "+x+" { }"))
	}
	wantFault(t, when("@x"), api.ErrName)
	wantFault(t, `card "A" { on play { let x = true; } on die when @x { } }`, api.ErrName)
	wantFault(t, `card "A" { on play when @x { let x = true; } }`, api.ErrName)
	wantFault(t, `card "A" { on play when true && @1 { wave(); } }`, api.ErrType)
	wantFault(t, in("if true { @wave(); } else { hit(); }"), api.ErrCall)
	wantFault(t, in("if true { } else { @hit(); }"), api.ErrArgs)
	wantFault(t, in("if true { } else if true { @hit(); } else { wave(); }"), api.ErrArgs)
}

// What of a name is seen, and where.
func TestNames(t *testing.T) {
	for _, x := range []string{
		"let x = @x;", "let x = @y;", "let y = 1; let x = y + @z;", "hit(self, @x); let x = 1;", "if true { let x = 1; } hit(self, @x);", "if true { let x = 1; } else { hit(self, @x); }",
		"if true { if true { let x = 1; } hit(self, @x); }", "repeat 2 as i { } hit(self, @i);", "repeat 2 as i { let x = i; } hit(self, @x);", "each c in " + list + " { } hit(@c, 1);", "each c in @c { }", "each c in " + list + " { let x = 1; } hit(self, @x);",
		"choose c in " + list + " { } hit(@c, 1);", "choose c in @c { }", "choose c in " + list + " { } else { hit(@c, 1); }", "choose c in " + list + " { let x = 1; } else { hit(self, @x); }", "choose c in " + list + " { } else { let x = 1; } hit(self, @x);",
		"choose c in zone(@p, hand).cards { }", "each c in zone(@p, hand).cards { }", "let x = @x.power;", "let x = min(1, @x);", "let x = -@x;", "let x = !@x;", "if @x { }", "let x = @deck2;", "let x = @selfs;", "let x = @m;", "let x = 1; let y = @xx;",
		// Declared where it is seen, or not seen.
		"let x = 1; @let x = 2;", "let x = 1; @let x = true;", "let x = 1; if true { @let x = 2; }", "let x = 1; repeat 1 as i { if true { } else { @let x = 2; } }", "repeat 1 as i { @let i = 1; }", "repeat 1 as i { if true { @let i = 1; } }", "each c in " + list + " { @let c = 1; }", "choose c in " + list + " { @let c = 1; }",
		"let x = 1; @repeat 1 as x { }", "repeat 1 as i { @repeat 1 as i { } }", "let x = 1; @each x in " + list + " { }", "each x in " + list + " { @each x in " + list + " { } }", "let x = 1; @choose x in " + list + " { }", "choose x in " + list + " { @choose x in " + list + " { } }", "each x in " + list + " { @choose x in " + list + " { } }", "let x = " + list + "; @each x in x { }", "let x = " + list + "; @choose x in x { }",
		"let x = 1; choose c in " + list + " { } else { @let x = 1; }", "@x = 1;", "if true { let x = 1; } @x = 1;", "let y = 1; @x = y;", "@x = 1; let x = 1;", "@x = wave();", "choose c in " + list + " { let x = 1; } else { @x = 2; }", "repeat 1 as i { let x = 1; } @x = 2;",
		"let x = 1; if true { @repeat 1 as x { } }", "let x = 1; if x == 1 { } else { @each x in " + list + " { wave(); } }", "repeat 3 as j { repeat 3 as i { } } repeat 3 as i { @repeat 3 as i { } }",
	} {
		wantFault(t, in(x), api.ErrName)
	}
	for _, x := range []string{
		"let x = 1; let y = x; let z = x + y;", "if true { let x = 1; } else { let x = true; } let x = me;", "repeat 1 as i { } repeat 1 as i { } let i = me;", "let x = 1; if true { hit(self, x); if x == 1 { x = x + 1; } }",
		"each c in " + list + " { } choose c in " + list + " { } else { let c = 1; c = 2; } let c = true; c = false;", "choose c in " + list + " { hit(c, 1); let x = 1; } else { let x = me; x = x; }",
		"if true { let x = 1; if true { x = 2; } let y = x; }", "let power2 = self.power; let zone = 1; let next = zone; let cards = next; hit(self, cards); let c = zone(me, hand); let n = next(me); let move = 1; move(self, c); let hits = move;", "repeat 3 as i { repeat 3 as j { let x = i + j; } }", "let me2 = me; let self2 = self; self2 = self; me2 = me;",
	} {
		wantOK(t, in(x))
	}
	wantFault(t, `card "A" { on play { let x = 1; } on die { hit(self, @x); } }`, api.ErrName)
	wantFault(t, `card "A" { on play { repeat 2 as i { let x = 1; } } } card "B" { on play { @x = 1; } }`, api.ErrName)
	wantOK(t, `card "A" { on play { let x = 1; } on die { let x = true; } } card "B" { on play { let x = me; } }`)
}

func TestWhatIsNotAssigned(t *testing.T) {
	for _, x := range []string{
		"@self = self;", "@me = me;", "@self = 1;", "@me = wave();", "@self = x;", "if true { @me = me; }", "repeat 1 as i { @i = 1; }", "repeat 1 as i { @i = true; }", "repeat 1 as i { if true { @i = x; } }", "each c in " + list + " { @c = self; }", "each c in " + list + " { @c = 1 + true; }",
		"choose c in " + list + " { @c = self; }", "choose c in " + list + " { @c = x; }", "each c in " + list + " { let x = c; x = self; @c = x; }", "let i = 1; i = 2; repeat 1 as j { i = j; @j = i; }",
	} {
		wantFault(t, in(x), api.ErrSet)
	}
	wantOK(t, in("let a = self; let b = me; let c = 1; let d = true; let e = self.place; let f = "+list+"; repeat 1 as i { a = self; b = me; c = i; d = false; e = zone(me, deck); f = e.cards; }"))
}

func TestHowManyRounds(t *testing.T) {
	for _, n := range []string{"0", "1", "254", "255"} {
		wantOK(t, in("repeat "+n+" as i { }"))
	}
	for _, n := range []string{"256", "257", "511", "4294967296", "9223372036854775807"} {
		wantFault(t, in("@repeat "+n+" as i { wave(); }"), api.ErrSize)
		wantFault(t, in("let i = 1; @repeat "+n+" as i { }"), api.ErrSize)
		wantFault(t, in("repeat 255 as i { @repeat "+n+" as i { } }"), api.ErrSize)
	}
	wantFault(t, in("let i = 1; @repeat 255 as i { }"), api.ErrName)
}

func TestHowManySlots(t *testing.T) {
	each := func(x string) string { return "each " + x + " in " + list + " { } " }
	choose := func(x string) string { return "choose " + x + " in " + list + " { } " }
	for _, x := range []string{
		lets(30), lets(29) + "let x = 1;", lets(29) + "repeat 1 as x { }", lets(29) + choose("x"), lets(27) + each("x"), lets(24) + each("x") + each("x"), lets(26) + each("x") + choose("x"), strings.Repeat(each("x"), 10), strings.Repeat(choose("x"), 30), strings.Repeat("repeat 1 as x { } ", 30),
		strings.Repeat("if true { let x = 1; } ", 30), "repeat 1 as x { " + lets(29) + "}", "each x in " + list + " { " + lets(27) + "}", lets(10) + "choose x in " + list + " { " + each("y") + each("y") + "let y = 1; } else { " + strings.Repeat("if true { let y = 1; } ", 12) + "}",
	} {
		wantOK(t, in(x))
	}
	for _, x := range []string{
		lets(30) + "@let x = 1;", lets(30) + "@repeat 1 as x { }", lets(30) + "@choose x in " + list + " { }", lets(30) + "@each x in " + list + " { }", lets(29) + "@each x in " + list + " { }", lets(28) + "@each x in " + list + " { }",
		lets(30) + "stop; if true { @let x = 1; }", lets(29) + "let x = 1; @let y = 1;", strings.Repeat(each("x"), 10) + "@let x = 1;", strings.Repeat(each("x"), 10) + "@" + each("x"), strings.Repeat(each("x"), 9) + "let x = 1; @" + each("y"), strings.Repeat(each("x"), 9) + "let x = 1; let y = 1; @" + each("z"),
		strings.Repeat("if true { let x = 1; } ", 30) + "if true { @let x = 1; }", strings.Repeat(choose("x"), 30) + "@" + choose("x"), strings.Repeat("repeat 1 as x { } ", 30) + "@repeat 1 as x { }", "repeat 1 as x { " + lets(29) + "@let y = 1; }", "each x in " + list + " { " + lets(27) + "@let y = 1; }", "each x in " + list + " { " + lets(27) + "@choose y in " + list + " { } }",
		lets(30) + "@repeat 1 as x { wave(); }", lets(29) + "@each x in " + list + " { wave(); }", lets(30) + "@choose x in " + list + " { wave(); } else { wave(); }",
	} {
		wantFault(t, in(x), api.ErrSize)
	}
	// What stands ahead of it in the order: the expression, then the name.
	for _, x := range []string{"@let a0 = 1;", "@repeat 1 as a0 { }", "@each a0 in " + list + " { }", "@choose a0 in " + list + " { }", "let x = @x;", "each x in @x { }", "choose x in @x { }"} {
		wantFault(t, in(lets(30)+x), api.ErrName)
	}
	for _, x := range []string{"let x = 1 + @true;", "each x in @self { }", "choose x in self.@place { }"} {
		wantFault(t, in(lets(30)+x), api.ErrType)
	}
	wantFault(t, in(lets(30)+"a0 = @1;"), api.ErrType)
	// Each ability has slots of its own.
	wantOK(t, `card "A" { on play { `+lets(30)+`} on die { `+lets(30)+`} }`)
}

func TestLists(t *testing.T) {
	for _, x := range []string{"@1", "@true", "@self", "@me", "self.@place", "1 @< 2", "self.place.cards.@count", "@top(self.place)", "(@self)"} {
		wantFault(t, in("each c in "+x+" { wave(); }"), api.ErrType)
		wantFault(t, in("choose c in "+x+" { wave(); } else { wave(); }"), api.ErrType)
		wantFault(t, in("let c = 1; each c in "+x+" { wave(); }"), api.ErrType)
		wantFault(t, in("let c = 1; choose c in "+x+" { wave(); }"), api.ErrType)
	}
	for _, x := range []string{"each", "choose"} {
		wantFault(t, in(x+" c in "+list+" { @wave(); }"), api.ErrCall)
		wantFault(t, in(x+" c in "+list+" { let d = c; hit(d, @c); }"), api.ErrType)
	}
	wantFault(t, in("choose c in "+list+" { @wave(); } else { hit(); }"), api.ErrCall)
	wantFault(t, in("choose c in "+list+" { } else { @wave(); }"), api.ErrCall)
	wantFault(t, in("repeat 1 as i { @wave(); }"), api.ErrCall)
	wantFault(t, in("repeat 1 as i { hit(@i, i); }"), api.ErrType)
}

// Of two things that are not so the first one in the order of the text is told.
func TestTheFirstFault(t *testing.T) {
	for _, x := range []struct {
		src string
		why api.Errno
	}{
		{`card "A" { @power 1000000001; cost 1; cost 1; } card "A" { }`, api.ErrSize}, {`card "A" { cost 1; on play { @wave(); } cost 1; }`, api.ErrCall}, {`card "A" { cost 1; @cost 1; on play { wave(); } }`, api.ErrTwice},
		{`card "A" { on play when @x { wave(); } }`, api.ErrName}, {`card "A" { on play { @wave(); } on die when x { } }`, api.ErrCall},
		{in("hit(@x, y);"), api.ErrName}, {in("hit(@1, y);"), api.ErrType}, {in("hit(self, @y); wave();"), api.ErrName}, {in("@hit(x, y, z);"), api.ErrArgs}, {in("@wave(x);"), api.ErrCall}, {in("let x = @wave(y);"), api.ErrCall}, {in("let x = @min(y);"), api.ErrArgs},
		{in("let x = @y + wave();"), api.ErrName}, {in("let x = @true + y;"), api.ErrType}, {in("let x = 1 + @y + true;"), api.ErrName}, {in("let x = 1 + (true @&& 1 == 1) + y;"), api.ErrType}, {in("let x = @y == wave();"), api.ErrName}, {in("let x = self.place.@cards == y;"), api.ErrType},
		{in("let x = @y.wings;"), api.ErrName}, {in("let x = @wave().wings;"), api.ErrCall}, {in("let x = self.@wings.wave;"), api.ErrCall}, {in("let x = @self.size.wings;"), api.ErrType}, {in("let x = self.power.@wings;"), api.ErrCall},
		{in("let x = (1 + @true).wings;"), api.ErrType}, {in("let a = 1; let a = @b;"), api.ErrName}, {in("let a = 1; let a = 1 + @true;"), api.ErrType}, {in("let a = 1; a = @b;"), api.ErrName}, {in("let a = 1; a = 1 @== 1;"), api.ErrType}, {in("let a = 1; a = @true + 1;"), api.ErrType},
		{in("if @1 { wave(); } else { hit(); }"), api.ErrType}, {in("if 1 == @true { }"), api.ErrType}, {in("@hit(wave());"), api.ErrArgs}, {in("let z = zone(@self, me);"), api.ErrType}, {in("let z = zone(me, @wave());"), api.ErrType}, {in("let z = zone(me, @x);"), api.ErrType}, {in("let z = is(self, x @+ y);"), api.ErrType},
		{in("let z = abs(@deck);"), api.ErrType}, {in(`let z = abs(@"x");`), api.ErrType}, {in("let z = min(@deck, x);"), api.ErrType}, {in("let z = min(1, @deck);"), api.ErrType},
	} {
		wantFault(t, x.src, x.why)
	}
}
