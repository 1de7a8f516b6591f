package tests

import (
	"math"
	"regexp"
	"strings"
	"testing"

	"loop.example/g00629/impl"
)

var aLineName = regexp.MustCompile(`\A([a-z][a-z0-9_]{0,19})?\z`)

// areCardsAsked: a list from which the numbers 1 to 6 are picked, in their order.
func areCardsAsked(cards []int64) bool {
	at := 0
	for n := int64(1); n <= 6; n++ {
		if at < len(cards) && cards[at] == n {
			at++
		}
	}
	return at == len(cards)
}

func isALine(x impl.Line) bool {
	return isWithin(1, x.Kind, 5) && aLineName.MatchString(x.Name) && (len(x.Sum) == 0 || len(x.Sum) == 32) && areCardsAsked(x.Cards)
}

// rawLine is what would be the text of a Line, right or not.
func rawLine(x impl.Line) string {
	text := numAsked(x.Kind) + textAsked(x.Name) + textAsked(x.Sum) + numAsked(int64(len(x.Cards)))
	for _, c := range x.Cards {
		text += numAsked(c)
	}
	return text
}

func lineAsked(x impl.Line) string {
	if !isALine(x) {
		return ""
	}
	return rawLine(x)
}

// line is a Line in memory of its own.
func line(kind int64, name, sum string, cards ...int64) impl.Line {
	return impl.Line{Kind: kind, Name: name, Sum: sum, Cards: append([]int64{}, cards...)}
}

func lineKinds() []int64 {
	return []int64{math.MinInt64, -1 << 32, -256, -6, -5, -2, -1, 0, 1, 2, 3, 4, 5, 6, 7, 10, 63, 64, 256 + 1, 1<<32 + 1, math.MaxInt64}
}

func rightNames() []string {
	return []string{"", "a", "z", "k1", "k_", "a0_9", strings.Repeat("a", 19), strings.Repeat("z", 20), "abcdefghij0123456789"}
}

// noNames: the last ones are longer than what may be handed in as such, but are not.
func noNames() []string {
	return []string{"1", "1a", "_", "_a", "0", "A", "aB", "a b", " a", "a ", "a\n", "a\x00", "\x00", "ä", "a-", "a{", "a`", "a/", "a:",
		strings.Repeat("a", 21), "1" + strings.Repeat("a", 20), strings.Repeat("a", 40), strings.Repeat("a", 256), strings.Repeat("a", 256+20),
		strings.Repeat("a", impl.MaxBytes), strings.Repeat("a", impl.MaxBytes+1)}
}

func rightSums() []string {
	return []string{"", long(32), strings.Repeat("\x00", 32), strings.Repeat("\xff", 32), strings.Repeat("a", 32)}
}

func noSums() []string {
	return []string{"\x00", "x", long(2), long(16), long(31), long(33), strings.Repeat("\x00", 31), strings.Repeat("\x00", 33), long(64),
		long(256), long(256 + 32), long(impl.MaxBytes), long(impl.MaxBytes + 1)}
}

func rightCardLists() [][]int64 {
	return [][]int64{nil, {}, {1}, {2}, {5}, {6}, {1, 2}, {1, 6}, {5, 6}, {1, 3, 5}, {2, 4, 6}, {1, 2, 3, 4, 5}, {2, 3, 4, 5, 6}, {1, 2, 3, 4, 5, 6}}
}

func noCardLists() [][]int64 {
	many := make([]int64, impl.MaxList+1)
	for i := range many {
		many[i] = int64(i + 1)
	}
	return [][]int64{{0}, {7}, {-1}, {8}, {256 + 1}, {1<<32 + 1}, {math.MinInt64}, {math.MaxInt64}, {0, 1}, {1, 0}, {6, 7}, {5, 7}, {-1, 1},
		{1, 1}, {6, 6}, {1, 2, 2}, {1, 1, 2}, {2, 1}, {6, 1}, {1, 3, 2}, {3, 1, 2}, {6, 5, 4, 3, 2, 1}, {1, 2, 3, 4, 6, 5}, {1, 2, 3, 4, 5, 5},
		{1, 2, 3, 4, 5, 6, 6}, {1, 2, 3, 4, 5, 6, 7}, {0, 1, 2, 3, 4, 5, 6}, {1, 1, 2, 3, 4, 5, 6}, {1, 2, 3, 4, 5, 6, 1}, {1, 2, 3, 4, 5, 6, 0},
		{1, 2, 3, 4, 5, 7}, {0, 0, 0}, {1, math.MinInt64, 2}, {1, math.MaxInt64}, make([]int64, 6), make([]int64, impl.MaxList+1), many, many[:7], many[1:7]}
}

// rightLines are of each Kind, Name, Sum and list of Cards, some together.
func rightLines() []impl.Line {
	var all []impl.Line
	for kind := int64(1); kind <= 5; kind++ {
		for _, name := range rightNames() {
			all = append(all, line(kind, name, "", 1, 2), line(kind, name, long(32)))
		}
		for _, sum := range rightSums() {
			all = append(all, line(kind, "k1", sum, 3), line(kind, "", sum, 1, 2, 3, 4, 5, 6))
		}
		for _, cards := range rightCardLists() {
			all = append(all, line(kind, "", "", cards...), line(kind, "name", long(32), cards...))
		}
	}
	return all
}

// wrongLines are right ones but for one thing, and some for more.
func wrongLines() []impl.Line {
	all := []impl.Line{{}, {Name: "1", Sum: "x", Cards: []int64{0}}}
	for _, kind := range lineKinds() {
		if kind < 1 || kind > 5 {
			all = append(all, line(kind, "", ""), line(kind, "k1", long(32), 1, 2), line(kind, "1", "x", 0))
		}
	}
	for _, name := range noNames() {
		all = append(all, line(1, name, ""), line(5, name, long(32), 1, 2))
	}
	for _, sum := range noSums() {
		all = append(all, line(1, "", sum), line(3, "k1", sum, 1, 2))
	}
	for _, cards := range noCardLists() {
		all = append(all, line(1, "", "", cards...), line(2, "k1", long(32), cards...))
	}
	return all
}

func TestLineRight(t *testing.T) {
	for _, x := range rightLines() {
		same(t, "right", impl.LineRight(x), true)
	}
	for _, x := range wrongLines() {
		same(t, "not right", impl.LineRight(x), false)
		same(t, "its text", impl.LineText(x), "")
	}
	for n := range int64(300) {
		same(t, "a Kind", impl.LineRight(impl.Line{Kind: n - 100}), n >= 101 && n <= 105)
		same(t, "a Name of so many bytes", impl.LineRight(line(1, strings.Repeat("x", int(n)), "")), n <= 20)
		same(t, "a Sum of so many bytes", impl.LineRight(line(1, "", long(int(n)))), n == 0 || n == 32)
		same(t, "a Card of that number", impl.LineRight(line(1, "", "", n-100)), n >= 101 && n <= 106)
	}
}

func TestLineKinds(t *testing.T) {
	for n, kind := range []int64{impl.LnInit, impl.LnKey, impl.LnSign, impl.LnIssue, impl.LnRevoke} {
		same(t, "counted from 1", kind, int64(n+1))
		same(t, "right", impl.LineRight(impl.Line{Kind: kind}), true)
	}
	same(t, "MaxLines", impl.MaxLines, 12)
}

// All edges meet.
func TestLineEdges(t *testing.T) {
	names := append(rightNames(), noNames()...)
	sums := append(rightSums(), noSums()...)
	lists := append(rightCardLists(), noCardLists()...)
	for _, kind := range lineKinds() {
		for _, name := range names {
			for _, sum := range sums {
				x := impl.Line{Kind: kind, Name: name, Sum: sum}
				for _, x.Cards = range lists {
					if impl.LineRight(x) != isALine(x) {
						t.Errorf("LineRight of %d, %.9q, a Sum of %d bytes, %v: got %v", kind, name, len(sum), x.Cards, !isALine(x))
					}
				}
			}
		}
	}
}

// Every byte at the beginning, further on and at the end of a Name.
func TestLineNamesByteByByte(t *testing.T) {
	for b := range 256 {
		one := string([]byte{byte(b)})
		for _, name := range []string{one, "a" + one, one + "a", strings.Repeat("x", 19) + one, strings.Repeat("x", 20) + one} {
			x := line(2, name, "")
			same(t, "a Name", impl.LineRight(x), isALine(x))
			same(t, "as NameRight", impl.LineRight(x), impl.NameRight(name))
			same(t, "its text", impl.LineText(x), lineAsked(x))
		}
	}
}

// Every list of up to four numbers about the ones that there are.
func TestLineCards(t *testing.T) {
	lists, right := [][]int64{nil}, 0
	for at := 0; at < len(lists); at++ {
		x := line(5, "", "", lists[at]...)
		if impl.LineRight(x) != isALine(x) || impl.LineText(x) != lineAsked(x) {
			t.Errorf("Cards %v: got %v, %x", x.Cards, impl.LineRight(x), impl.LineText(x))
		}
		if impl.LineRight(x) {
			right++
		}
		for n := int64(-1); n <= 8 && len(lists[at]) < 4; n++ {
			lists = append(lists, append(append([]int64{}, lists[at]...), n))
		}
	}
	same(t, "ways to pick up to four of six", right, 1+6+15+20+15)
}

func TestLineTextKnown(t *testing.T) {
	pay := libraryDigest("pay")
	for _, x := range []struct {
		line impl.Line
		want string
	}{
		{impl.Line{Kind: impl.LnInit}, "02000000"},
		{impl.Line{Kind: impl.LnKey, Name: "k1", Cards: []int64{1, 3}}, "04046b3100040206"},
		{impl.Line{Kind: impl.LnSign, Name: "k1", Sum: pay, Cards: []int64{1, 2}},
			"06046b31409350872d712a127c494d7dc35e46b0bc9e62e288239708e581dfc3a1400154a4040204"},
		{impl.Line{Kind: impl.LnIssue, Cards: []int64{2, 3}}, "080000040406"},
		{impl.Line{Kind: impl.LnRevoke, Name: strings.Repeat("a", 20), Sum: strings.Repeat("\xff", 32), Cards: []int64{1, 2, 3, 4, 5, 6}},
			"0a28" + strings.Repeat("61", 20) + "40" + strings.Repeat("ff", 32) + "0c020406080a0c"},
	} {
		same(t, "LineText", hexed(impl.LineText(x.line)), x.want)
	}
}

func TestLineText(t *testing.T) {
	for _, x := range append(rightLines(), wrongLines()...) {
		same(t, "LineText", impl.LineText(x), lineAsked(x))
	}
	same(t, "no Cards at all", impl.LineText(impl.Line{Kind: 1}), impl.LineText(impl.Line{Kind: 1, Cards: []int64{}}))
}

// A Line can be told from its text: each part is read back, and nothing else is there.
func TestLineTextIsReadBack(t *testing.T) {
	for _, x := range rightLines() {
		r := partsReader{left: impl.LineText(x), ok: true}
		got := impl.Line{Kind: r.number(), Name: r.words(), Sum: r.words()}
		for range r.number() {
			got.Cards = append(got.Cards, r.number())
		}
		same(t, "read, and no more", r.ok && r.left == "", true)
		same(t, "the Line", equalLines(got, x), true)
	}
}

// A Line leaves its list as it is, and its texts hang on no list's room.
func TestLineLeavesItsCards(t *testing.T) {
	for _, x := range append(rightLines(), wrongLines()...) {
		roomier := x
		roomier.Cards = append(make([]int64, 0, len(x.Cards)+9), x.Cards...)
		same(t, "right", impl.LineRight(roomier), isALine(x))
		text := impl.LineText(roomier)
		same(t, "the text", text, lineAsked(x))
		same(t, "the list", equalLines(roomier, x), true)
		for _, n := range roomier.Cards[len(x.Cards):cap(roomier.Cards)] {
			same(t, "behind the list", n, 0)
		}
		if len(x.Cards) > 0 {
			roomier.Cards[0] = 9
			same(t, "the text, with the list turned behind the call", text, lineAsked(x))
		}
	}
}
