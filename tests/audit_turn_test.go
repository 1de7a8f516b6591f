package tests

import (
	"fmt"
	"slices"
	"strings"
	"sync"
	"testing"

	"loop.example/g00629/impl"
)

// turnedLines are right ones that differ from x in one part.
func turnedLines(x impl.Line) []impl.Line {
	var all []impl.Line
	for kind := int64(1); kind <= 5; kind++ {
		all = append(all, line(kind, x.Name, x.Sum, x.Cards...))
	}
	for _, name := range append(rightNames(), x.Name+"x", "x"+x.Name) {
		all = append(all, line(x.Kind, name, x.Sum, x.Cards...))
	}
	for _, sum := range rightSums() {
		all = append(all, line(x.Kind, x.Name, sum, x.Cards...))
	}
	for at := range x.Sum {
		all = append(all, line(x.Kind, x.Name, turned(x.Sum, at, 1), x.Cards...), line(x.Kind, x.Name, turned(x.Sum, at, 128), x.Cards...))
	}
	for _, cards := range rightCardLists() {
		all = append(all, line(x.Kind, x.Name, x.Sum, cards...))
	}
	return slices.DeleteFunc(all, func(y impl.Line) bool { return equalLines(x, y) || !isALine(y) })
}

// refusesAll tells that a log is not right, whoever asks.
func refusesAll(t *testing.T, what string, a, was impl.Audit) {
	t.Helper()
	same(t, what+": right", impl.AuditRight(a), false)
	same(t, what+": its end", impl.AuditEnd(a), "")
	sameAuditOut(t, what+": added to", impl.AuditAdd(a, impl.Line{Kind: 1}), impl.AuditOut{Code: impl.ErrForm})
	same(t, what+": extends", impl.Extends(was, a) || impl.Extends(a, was) || impl.Extends(a, a) || impl.Extends(impl.Audit{}, a), false)
}

// Promise 11: with a Line turned, at each place, the links are not right.
func TestAuditLineTurned(t *testing.T) {
	for _, n := range []int{1, 2, 5, 12} {
		was := someAudit(n)
		for at := range n {
			for _, x := range append(turnedLines(was.Lines[at]), wrongLines()[:20]...) {
				a := ownAudit(was)
				a.Lines[at] = x
				refusesAll(t, fmt.Sprintf("of %d Lines that of place %d turned", n, at), a, was)
			}
		}
	}
}

// Promise 11: with each byte of each link turned they are not right.
func TestAuditLinkTurned(t *testing.T) {
	was := someAudit(4)
	for at := range 4 {
		for place := range 32 {
			for by := 1; by < 256; by += 7 {
				a := ownAudit(was)
				a.Links[at] = turned(a.Links[at], place, byte(by))
				same(t, "a byte of a link turned", impl.AuditRight(a), false)
			}
			a := ownAudit(was)
			a.Links[at] = turned(a.Links[at], place, 1)
			refusesAll(t, "a byte of a link turned", a, was)
		}
	}
}

// Promise 11: with a Line taken away, not the last one, they are not right, whichever links stay.
func TestAuditLineTakenAway(t *testing.T) {
	for n := 2; n <= 12; n++ {
		was := someAudit(n)
		for at := range n - 1 {
			for link := range n {
				a := ownAudit(was)
				a.Lines, a.Links = slices.Delete(a.Lines, at, at+1), slices.Delete(a.Links, link, link+1)
				refusesAll(t, "one of the Lines taken away, and one of the links", a, was)
			}
			a := ownAudit(was)
			a.Lines = slices.Delete(a.Lines, at, at+1)
			refusesAll(t, "one of the Lines taken away", a, was)
		}
		for ahead := 1; ahead < n; ahead++ {
			a := impl.Audit{Lines: was.Lines[ahead:], Links: was.Links[ahead:]}
			refusesAll(t, "all ahead taken away", a, was)
			a.Links = was.Links[:n-ahead]
			refusesAll(t, "all ahead taken away, and the last links", a, was)
		}
		for left := range n {
			a := impl.Audit{Lines: was.Lines[:left], Links: was.Links[:left]}
			same(t, "what stands ahead is right by itself", impl.AuditRight(a), true)
			same(t, "and has another end", impl.AuditEnd(a) == impl.AuditEnd(was), false)
		}
	}
}

// Lines or links in another order, put in between, or told twice.
func TestAuditMoved(t *testing.T) {
	for n := 2; n <= 12; n++ {
		was := someAudit(n)
		for x := range n {
			for y := range x {
				a := ownAudit(was)
				a.Lines[x], a.Lines[y] = a.Lines[y], a.Lines[x]
				same(t, "two Lines swapped", impl.AuditRight(a), false)
				a.Links[x], a.Links[y] = a.Links[y], a.Links[x]
				same(t, "with their links", impl.AuditRight(a), false)
				a = ownAudit(was)
				a.Links[x], a.Links[y] = a.Links[y], a.Links[x]
				same(t, "two links swapped", impl.AuditRight(a), false)
			}
			a := ownAudit(someAudit(n - 1))
			if x < n-1 {
				a.Lines = slices.Insert(a.Lines, x, someLine(20))
				a.Links = slices.Insert(a.Links, x, was.Links[n-1])
				same(t, "one put in between", impl.AuditRight(a), false)
				a = ownAudit(someAudit(n - 1))
				a.Lines, a.Links = slices.Insert(a.Lines, x, a.Lines[x]), slices.Insert(a.Links, x, a.Links[x])
				same(t, "one told twice", impl.AuditRight(a), false)
			}
		}
	}
}

// Of all logs of a few Lines, each by each.
func TestExtendsOfMany(t *testing.T) {
	logs := manyLogs()
	same(t, "so many logs", len(logs), 1+4+16+64)
	for _, a := range logs {
		extended := 0
		for _, b := range logs {
			if impl.Extends(a, b) != extendsAsked(a, b) {
				t.Errorf("Extends of %+v by %+v: got %v", a, b, !extendsAsked(a, b))
			}
			if impl.Extends(a, b) {
				extended++
			}
		}
		same(t, "so many extend it", extended, []int{85, 21, 5, 1}[len(a.Lines)])
	}
}

func TestExtends(t *testing.T) {
	for n := 0; n <= 13; n++ {
		for m := 0; m <= 13; m++ {
			same(t, fmt.Sprintf("of %d Lines, by %d", n, m), impl.Extends(someAudit(n), someAudit(m)), n <= m && m <= 12)
		}
	}
	none, empty := impl.Audit{}, impl.Audit{Lines: []impl.Line{}, Links: []string{}}
	same(t, "none, and empty lists", impl.Extends(none, empty) && impl.Extends(empty, none) && impl.Extends(none, none), true)
	bare, listed := auditAsked(impl.Line{Kind: 1}), auditAsked(impl.Line{Kind: 1})
	bare.Lines[0].Cards, listed.Lines[0].Cards = nil, []int64{}
	same(t, "no Cards, and an empty list", impl.Extends(bare, listed) && impl.Extends(listed, bare), true)
}

// By one that parts from it at each place, in each part of a Line, rightly linked again.
func TestExtendsOfWhatParts(t *testing.T) {
	for _, n := range []int{1, 2, 7, 12} {
		a := someAudit(n)
		for at := range n {
			for _, x := range turnedLines(a.Lines[at]) {
				lines := someLines(12)
				lines[at] = x
				for _, m := range []int{n, 12} {
					b := auditAsked(lines[:m]...)
					same(t, "right", impl.AuditRight(b), true)
					same(t, fmt.Sprintf("of %d Lines, parted at %d", n, at), impl.Extends(a, b) || impl.Extends(b, a), false)
				}
				b := auditAsked(lines[:at]...)
				same(t, "where they have not parted yet", impl.Extends(b, a), true)
				same(t, "the other way round", impl.Extends(a, b), false)
			}
		}
	}
}

// By one that is not right, or of one.
func TestExtendsOfWrong(t *testing.T) {
	right := []impl.Audit{{}, someAudit(1), someAudit(2), someAudit(12), auditAsked(impl.Line{Kind: 1})}
	for _, wrong := range wrongAudits() {
		for _, a := range right {
			same(t, "by a wrong one", impl.Extends(a, wrong), false)
			same(t, "of a wrong one", impl.Extends(wrong, a), false)
		}
		same(t, "by itself", impl.Extends(wrong, wrong), false)
	}
	// The first Lines are the same: one alone is not right, behind them or by its links.
	a, b := someAudit(3), someAudit(5)
	b.Links[4] = turned(b.Links[4], 0, 1)
	same(t, "by one that is wrong behind", impl.Extends(a, b), false)
	b = someAudit(5)
	b.Lines[4] = impl.Line{Kind: 6}
	b.Links[4] = libraryDigest(b.Links[3] + rawLine(b.Lines[4]))
	same(t, "by one with a wrong Line behind", impl.Extends(a, b), false)
	a.Links[0] = turned(a.Links[0], 0, 1)
	same(t, "of one with a wrong link", impl.Extends(a, someAudit(5)), false)
	same(t, "of a wrong one by a wrong one", impl.Extends(a, b), false)
}

// roomyAudit is a, with room behind each of its lists, filled so that a write there is seen.
func roomyAudit(a impl.Audit) impl.Audit {
	own := ownAudit(a)
	for at, x := range own.Lines {
		own.Lines[at].Cards = append(x.Cards, 71, 72, 73)[:len(x.Cards)]
	}
	n := len(own.Lines)
	own.Lines = append(own.Lines, line(77, "room", "room", 77), line(77, "room", "room", 77))[:n]
	own.Links = append(own.Links, "room", "room")[:n]
	return own
}

// isRoomy tells whether the room behind the lists is as it was.
func isRoomy(a impl.Audit) bool {
	for _, x := range a.Lines {
		n := len(x.Cards)
		if !slices.Equal(x.Cards[:n+3][n:], []int64{71, 72, 73}) {
			return false
		}
	}
	n, room := len(a.Lines), line(77, "room", "room", 77)
	return equalLines(a.Lines[:n+2][n], room) && equalLines(a.Lines[:n+2][n+1], room) && slices.Equal(a.Links[:n+2][n:], []string{"room", "room"})
}

// No call changes what is handed in, nor what stands behind it.
func TestAuditLeavesItsArguments(t *testing.T) {
	for n := range 14 {
		a, b := roomyAudit(someAudit(n)), roomyAudit(someAudit(min(n+1, 12)))
		cards := append([]int64{1, 4}, 71, 72, 73)[:2]
		x := impl.Line{Kind: 3, Name: "k1", Sum: long(32), Cards: cards}
		impl.AuditAdd(a, x)
		impl.AuditAdd(a, impl.Line{})
		impl.AuditRight(a)
		impl.AuditEnd(a)
		impl.Extends(a, b)
		impl.Extends(b, a)
		sameAudit(t, "the log", a, someAudit(n))
		sameAudit(t, "the other one", b, someAudit(min(n+1, 12)))
		same(t, "the Line", equalLines(x, line(3, "k1", long(32), 1, 4)), true)
		same(t, "behind the lists", isRoomy(a) && isRoomy(b) && slices.Equal(cards[:5], []int64{1, 4, 71, 72, 73}), true)
	}
}

// scribbledAudit turns all that a log's lists hold, and what room there is behind them.
func scribbledAudit(a impl.Audit) {
	lines, links := a.Lines[:cap(a.Lines)], a.Links[:cap(a.Links)]
	for at, x := range lines {
		cards := x.Cards[:cap(x.Cards)]
		for place := range cards {
			cards[place] = -9
		}
		lines[at].Kind, lines[at].Name = -9, "turned"
	}
	for at := range links {
		links[at] = "turned"
	}
}

// An answer shares no memory with an argument: either may be turned behind the call.
func TestAuditAnswerIsItsOwn(t *testing.T) {
	for n := range 12 {
		a, x := ownAudit(someAudit(n)), line(2, strings.Clone("k1"), strings.Clone(long(32)), 1, 4, 6)
		want := auditAsked(slices.Concat(a.Lines, []impl.Line{x})...)
		out := impl.AuditAdd(a, x)
		end := impl.AuditEnd(a)
		for at, y := range append(slices.Clone(a.Lines), x) {
			same(t, "a text", sharesMemory(y.Name, out.Audit.Lines[at].Name) || sharesMemory(y.Sum, out.Audit.Lines[at].Sum), false)
		}
		for at, link := range a.Links {
			same(t, "a link", sharesMemory(link, out.Audit.Links[at]) || sharesMemory(link, end), false)
		}
		scribbledAudit(a)
		for place := range x.Cards {
			x.Cards[place] = -9
		}
		sameAuditOut(t, "the argument turned", out, impl.AuditOut{Audit: want})

		a, x = ownAudit(someAudit(n)), line(2, "k1", long(32), 1, 4, 6)
		scribbledAudit(impl.AuditAdd(a, x).Audit)
		sameAudit(t, "the answer turned", a, someAudit(n))
		same(t, "the Line", equalLines(x, line(2, "k1", long(32), 1, 4, 6)), true)
	}
}

// No two lists of an answer share memory, also where those of the arguments do.
func TestAuditListsAreApart(t *testing.T) {
	cards := []int64{1, 2, 3}
	var a impl.Audit
	for n := range 5 {
		x := impl.Line{Kind: 2, Name: "k", Cards: cards[:n%3+1]}
		a.Lines = append(a.Lines, x)
	}
	a.Links = linksFrom("box", a.Lines)
	x := impl.Line{Kind: 3, Cards: cards}
	b := impl.AuditAdd(a, x).Audit
	for at := range b.Lines {
		got := impl.AuditAdd(a, x).Audit
		list := got.Lines[at].Cards[:cap(got.Lines[at].Cards)]
		for place := range list {
			list[place] = -9
		}
		want := ownAudit(b)
		for place := range want.Lines[at].Cards {
			want.Lines[at].Cards[place] = -9
		}
		sameAudit(t, "one list turned", got, want)
	}
	same(t, "what was shared", slices.Equal(cards, []int64{1, 2, 3}), true)
}

// The same calls answer the same, one after the other and many at once.
func TestAuditAnswersTheSame(t *testing.T) {
	a, x := someAudit(7), someLine(7)
	wrong := someAudit(7)
	wrong.Links[3] = long(32)
	var all sync.WaitGroup
	for range 16 {
		all.Go(func() {
			for range 40 {
				sameAuditOut(t, "added again", impl.AuditAdd(a, x), impl.AuditOut{Audit: someAudit(8)})
				sameAuditOut(t, "refused again", impl.AuditAdd(wrong, x), impl.AuditOut{Code: impl.ErrForm})
				same(t, "the end again", impl.AuditEnd(a), a.Links[6])
				same(t, "extends again", impl.Extends(a, someAudit(8)) && !impl.Extends(someAudit(8), a), true)
				same(t, "the text again", impl.LineText(x), lineAsked(x))
			}
		})
	}
	all.Wait()
	sameAudit(t, "the log", a, someAudit(7))
}
