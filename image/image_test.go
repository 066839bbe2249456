package image

import (
	"bytes"
	"hash/crc32"
	"math"
	"math/rand"
	"slices"
	"testing"

	"tableau/api"
	"tableau/sums"
)

// wantImage says that the state has just this image, there and back, and its sum.
func wantImage(t *testing.T, what string, s api.State, want []byte) {
	t.Helper()
	b, err := Encode(s)
	if err != api.OK || !bytes.Equal(b, want) {
		t.Errorf("P7.1: %s: Encode = %x, %d, not %x", what, b, err, want)
	}
	sum, err := Sum(s)
	if err != api.OK || sum != sums.Crc(want) || sum != crc32.ChecksumIEEE(want) {
		t.Errorf("P7.1: %s: Sum = %#x, %d, not %#x", what, sum, err, crc32.ChecksumIEEE(want))
	}
	got, err, at := Decode(want)
	if err != api.OK || at != 0 || !same(got, s) {
		t.Errorf("P7.2: %s: Decode = %v, %d, %d, not %v", what, got, err, at, s)
	}
}

// wantNone says that the state has no image and no sum.
func wantNone(t *testing.T, what string, s api.State) {
	t.Helper()
	if b, err := Encode(s); len(b) != 0 || err != api.ErrState {
		t.Errorf("P7.1: %s: Encode = %x, %d", what, b, err)
	}
	if sum, err := Sum(s); sum != 0 || err != api.ErrState {
		t.Errorf("P7.1: %s: Sum = %#x, %d", what, sum, err)
	}
}

func TestImageOfTheExample(t *testing.T) {
	want := smallImage()
	if len(want) != 91 {
		t.Fatalf("the example has %d bytes", len(want))
	}
	wantImage(t, "S", small(), want)
	copy(want[6:], []byte{0xff, 0xff, 0xff, 0xff})
	wantImage(t, "S with the Life -1", changed(small(), func(s *api.State) { s.Players[0].Life = -1 }), want)
	wantNone(t, "S with Turn 0", changed(small(), func(s *api.State) { s.Turn = 0 }))
}

// TestImageByteByByte has another number at each place, so that none can stand for another.
func TestImageByteByByte(t *testing.T) {
	s := api.State{
		Players: []api.Player{{Life: 0x01020304, Energy: -2, Out: true}, {Life: -api.MaxStat, Energy: api.MaxStat}, {Life: 5, Energy: 6, Out: true}},
		Cards:   []api.Card{{Kind: 0xab, Owner: 2, Power: 7, Health: -8, Damage: 0x090a0b0c, Marks: -0x01020304}, {Kind: 255, Owner: 1, Marks: 13}},
		Zones:   [][]int{nil, {}, nil, nil, nil, nil, nil, nil, nil, nil, nil, {1, 0}},
		Turn:    0x7d0e0f10, Whose: 1, End: api.Won, Winner: 2,
	}
	want := []byte{
		0x54, 0x42, 0x4c, 0x53, 1,
		3, 1, 2, 3, 4, 0xff, 0xff, 0xff, 0xfe, 1, 0xc4, 0x65, 0x36, 0x00, 0x3b, 0x9a, 0xca, 0x00, 0, 0, 0, 0, 5, 0, 0, 0, 6, 1,
		0, 2,
		0, 0xab, 2, 0, 0, 0, 7, 0xff, 0xff, 0xff, 0xf8, 9, 10, 11, 12, 0xfe, 0xfd, 0xfc, 0xfc,
		0, 255, 1, 0, 0, 0, 0, 0, 0, 0, 0, 0, 0, 0, 0, 0, 0, 0, 13,
		0, 0, 0, 0, 0, 0, 0, 0, 0, 0, 0, 0, 0, 0, 0, 0, 0, 0, 0, 0, 0, 0, 0, 2, 0, 1, 0, 0,
		0x7d, 14, 15, 16, 1, 1, 2,
	}
	wantImage(t, "a state of three", s, want)
}

func TestImagesOfTheEdges(t *testing.T) {
	for _, s := range edges() {
		wantImage(t, "an edge", s, lay(s).b)
	}
}

func TestImagesOfAnyStates(t *testing.T) {
	r := rand.New(rand.NewSource(1))
	for range 2000 {
		s := anyState(r)
		wantImage(t, "any state", s, lay(s).b)
	}
}

func TestListsWithoutElementsAreTheSame(t *testing.T) {
	empty := changed(small(), func(s *api.State) {
		for z := range s.Zones {
			s.Zones[z] = append([]int{}, s.Zones[z]...)
		}
	})
	wantImage(t, "empty zones that are not nil (R4)", empty, smallImage())
}

func TestNoImageOfWrongStates(t *testing.T) {
	for _, w := range wrongs() {
		wantNone(t, w.what, w.s)
	}
	s := dealt(3, 4)
	for what, wrong := range map[string]api.State{
		"the zero State":         {},
		"a zone too few":         changed(s, func(s *api.State) { s.Zones = s.Zones[:11] }),
		"a zone too many":        changed(s, func(s *api.State) { s.Zones = append(s.Zones, nil) }),
		"300 players":            dealt(300, 3),
		"a kind below 0":         changed(s, func(s *api.State) { s.Cards[1].Kind = -1 }),
		"a kind beyond 16 bits":  changed(s, func(s *api.State) { s.Cards[1].Kind = 1 << 16 }),
		"an owner below 0":       changed(s, func(s *api.State) { s.Cards[1].Owner = -1 }),
		"an owner beyond 8 bits": changed(s, func(s *api.State) { s.Cards[1].Owner = 256 }),
		"an entry below 0":       changed(s, func(s *api.State) { swap(s, 2, -1) }),
		"an entry beyond":        changed(s, func(s *api.State) { swap(s, 2, 1<<16+2) }),
		"70000 cards":            dealt(3, 70000),
		"Whose below 0":          changed(s, func(s *api.State) { s.Whose = math.MinInt }),
		"Whose beyond 8 bits":    changed(s, func(s *api.State) { s.Whose = 256 }),
		"Winner beyond 8 bits":   changed(s, func(s *api.State) { s.Winner = 256 }),
		"Winner of all":          changed(s, func(s *api.State) { s.End, s.Winner = api.Won, math.MaxInt }),
	} {
		wantNone(t, what, wrong)
	}
}

// TestStatesAreTheSameJustIfTheirImagesAre holds all edges against each other.
func TestStatesAreTheSameJustIfTheirImagesAre(t *testing.T) {
	l := edges()
	images := [][]byte{}
	for _, s := range l {
		b, _ := Encode(s)
		images = append(images, b)
	}
	for i, a := range l {
		for k, b := range l {
			if same(a, b) != bytes.Equal(images[i], images[k]) {
				t.Fatalf("P7.1: the states %d and %d and their images differ", i, k)
			}
		}
	}
}

func TestAnswersHangOnWhatIsGivenAlone(t *testing.T) {
	first, _ := Encode(small())
	Encode(api.State{})
	Encode(dealt(4, api.MaxCards))
	Decode([]byte{1})
	second, _ := Encode(small())
	if !slices.Equal(first, second) {
		t.Errorf("P7.1: %x, and then %x (R6)", first, second)
	}
}
