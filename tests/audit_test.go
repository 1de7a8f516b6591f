package tests

import (
	"fmt"
	"slices"
	"strings"
	"testing"

	"loop.example/g00629/impl"
)

func equalLines(x, y impl.Line) bool {
	return x.Kind == y.Kind && x.Name == y.Name && x.Sum == y.Sum && slices.Equal(x.Cards, y.Cards)
}

func equalAudits(a, b impl.Audit) bool {
	return slices.EqualFunc(a.Lines, b.Lines, equalLines) && slices.Equal(a.Links, b.Links)
}

func sameAudit(t *testing.T, what string, got, want impl.Audit) {
	t.Helper()
	if !equalAudits(got, want) {
		t.Errorf("%s: got %+v, want %+v", what, got, want)
	}
}

func sameAuditOut(t *testing.T, what string, got, want impl.AuditOut) {
	t.Helper()
	same(t, what+": the Code", got.Code, want.Code)
	sameAudit(t, what, got.Audit, want.Audit)
}

// linksFrom are the links of the Lines' texts, right or not, if a first one goes on from start.
func linksFrom(start string, lines []impl.Line) []string {
	var links []string
	for _, x := range lines {
		start = libraryDigest(start + rawLine(x))
		links = append(links, start)
	}
	return links
}

// auditAsked has the Lines, in memory of their own, and what would be their links, if they were right.
func auditAsked(lines ...impl.Line) impl.Audit {
	return ownAudit(impl.Audit{Lines: lines, Links: linksFrom("box", lines)})
}

// ownAudit is a in memory of its own, also the bytes of its texts.
func ownAudit(a impl.Audit) impl.Audit {
	var own impl.Audit
	for _, x := range a.Lines {
		own.Lines = append(own.Lines, line(x.Kind, strings.Clone(x.Name), strings.Clone(x.Sum), x.Cards...))
	}
	for _, link := range a.Links {
		own.Links = append(own.Links, strings.Clone(link))
	}
	return own
}

func isAnAudit(a impl.Audit) bool {
	return len(a.Lines) <= 12 && !slices.ContainsFunc(a.Lines, func(x impl.Line) bool { return !isALine(x) }) &&
		slices.Equal(a.Links, linksFrom("box", a.Lines))
}

func addedAsked(a impl.Audit, x impl.Line) impl.AuditOut {
	switch {
	case !isAnAudit(a) || !isALine(x):
		return impl.AuditOut{Code: impl.ErrForm}
	case len(a.Lines) == 12:
		return impl.AuditOut{Code: impl.ErrFull}
	}
	return impl.AuditOut{Audit: auditAsked(slices.Concat(a.Lines, []impl.Line{x})...)}
}

func endAsked(a impl.Audit) string {
	switch {
	case !isAnAudit(a):
		return ""
	case len(a.Lines) == 0:
		return libraryDigest("box")
	}
	return a.Links[len(a.Links)-1]
}

func extendsAsked(a, b impl.Audit) bool {
	if !isAnAudit(a) || !isAnAudit(b) || len(a.Lines) > len(b.Lines) {
		return false
	}
	for at := range a.Lines {
		if !equalLines(a.Lines[at], b.Lines[at]) {
			return false
		}
	}
	return true
}

// someLine is the n-th one of Lines that are all unlike one another.
func someLine(n int) impl.Line {
	sums := []string{"", long(32), strings.Repeat("\x00", 32), libraryDigest("pay")}
	cards := rightCardLists()[n%14]
	return line(int64(1+n%5), fmt.Sprintf("k%d", n), sums[n/5%4], cards...)
}

func someLines(n int) []impl.Line {
	var lines []impl.Line
	for i := range n {
		lines = append(lines, someLine(i))
	}
	return lines
}

// someAudit has n unlike Lines, rightly linked, however many they are.
func someAudit(n int) impl.Audit {
	return auditAsked(someLines(n)...)
}

// rightAudits are of each size, some of Lines that are all alike.
func rightAudits() []impl.Audit {
	all := []impl.Audit{{}, {Lines: []impl.Line{}, Links: []string{}}}
	for n := 1; n <= 12; n++ {
		all = append(all, someAudit(n), auditAsked(slices.Repeat([]impl.Line{{Kind: 1}}, n)...),
			auditAsked(slices.Repeat([]impl.Line{line(5, strings.Repeat("z", 20), long(32), 1, 2, 3, 4, 5, 6)}, n)...))
	}
	return all
}

// wrongAudits are right ones but for one thing, and some for more.
func wrongAudits() []impl.Audit {
	var all []impl.Audit
	for _, n := range []int{13, 14, 24, 256, 256 + 12, impl.MaxList, impl.MaxList + 1} {
		all = append(all, someAudit(n), auditAsked(slices.Repeat([]impl.Line{{Kind: 1}}, n)...))
	}
	for _, a := range rightAudits() {
		all = append(all, wronglyLinked(a)...)
	}
	for _, x := range wrongLines() {
		all = append(all, auditAsked(x), auditAsked(someLine(0), x, someLine(1)), textlessAudit(x), textlessAudit(someLine(0), x))
	}
	for at := range 12 {
		lines := someLines(12)
		lines[at] = impl.Line{Kind: 6}
		all = append(all, auditAsked(lines...), textlessAudit(lines...), impl.Audit{Lines: lines, Links: someAudit(12).Links})
	}
	return all
}

// textlessAudit links the Lines by their LineTexts: those of wrong ones are empty.
func textlessAudit(lines ...impl.Line) impl.Audit {
	a, link := impl.Audit{Lines: lines}, "box"
	for _, x := range lines {
		link = libraryDigest(link + lineAsked(x))
		a.Links = append(a.Links, link)
	}
	return a
}

// wronglyLinked are the Lines of a with links that are not theirs.
func wronglyLinked(a impl.Audit) []impl.Audit {
	n := len(a.Links)
	lists := [][]string{append(ownAudit(a).Links, ""), append(ownAudit(a).Links, endAsked(a)), append(ownAudit(a).Links, long(32)),
		append([]string{libraryDigest("box")}, a.Links...), make([]string, impl.MaxList+1), make([]string, n+1)}
	if n > 0 {
		lists = append(lists, nil, a.Links[1:], a.Links[:n-1], make([]string, n), linksFrom("", a.Lines), linksFrom("Box", a.Lines),
			linksFrom("\x06box", a.Lines), linksFrom(libraryDigest("box"), a.Lines), slices.Repeat([]string{libraryDigest("box")}, n))
	}
	for at := range n {
		link := a.Links[at]
		for _, other := range []string{"", link[:31], link + "\x00", link[1:], "\x00" + link, long(32), hexed(link), link + link,
			libraryDigest(link), libraryDigest(rawLine(a.Lines[at])), libraryDigest("box" + rawLine(a.Lines[at]) + "\x00"),
			strings.Repeat(link, 256), turned(link, 0, 1), turned(link, 31, 128), turned(link, 16, 255)} {
			links := ownAudit(a).Links
			links[at] = other
			lists = append(lists, links)
		}
		if at > 0 {
			links := ownAudit(a).Links
			links[at], links[at-1] = links[at-1], links[at]
			lists = append(lists, links)
		}
	}
	var all []impl.Audit
	for _, links := range lists {
		all = append(all, impl.Audit{Lines: ownAudit(a).Lines, Links: links})
	}
	return all
}

func TestAuditKnown(t *testing.T) {
	pay := libraryDigest("pay")
	var a impl.Audit
	same(t, "the end of none", hexed(impl.AuditEnd(a)), "26f8567f2569182294c3fa5b9f9cb2270b554eef628b4c149cf82a42888ff4ae")
	for n, x := range []struct {
		line impl.Line
		link string
	}{
		{impl.Line{Kind: impl.LnInit}, "59c157bf41f1f82881f0633c513e536fce93d0887e3273e39984970a7dd83423"},
		{impl.Line{Kind: impl.LnKey, Name: "k1", Cards: []int64{1, 3}}, "81c36c397f4bbaa776ccb5a5a4e216ce77eebe58716bcbf987f25208bf751668"},
		{impl.Line{Kind: impl.LnSign, Name: "k1", Sum: pay, Cards: []int64{1, 2}}, "84360605992011f4aa2ac4a60e04ef8ba303ca3f335993bb112d3d78c7d6c964"},
		{impl.Line{Kind: impl.LnIssue, Cards: []int64{2, 3}}, "a4f83f1eda6e516d093155c9b0afd251def7c314d14dfd40dcce82262d45c3a0"},
		{impl.Line{Kind: impl.LnRevoke, Name: strings.Repeat("a", 20), Sum: strings.Repeat("\xff", 32), Cards: []int64{1, 2, 3, 4, 5, 6}},
			"06a43439defe434ec48f4fe33b4a1ad6f6db9be891cf53334a9566d6fcfa4e28"},
	} {
		out := impl.AuditAdd(a, x.line)
		same(t, "Code", out.Code, int64(impl.OK))
		same(t, "so many Lines, and links", len(out.Audit.Lines) == n+1 && len(out.Audit.Links) == n+1, true)
		same(t, "the link", hexed(out.Audit.Links[n]), x.link)
		same(t, "the end", hexed(impl.AuditEnd(out.Audit)), x.link)
		same(t, "the Line", equalLines(out.Audit.Lines[n], x.line), true)
		a = out.Audit
	}
}

func TestAuditRight(t *testing.T) {
	for _, a := range rightAudits() {
		same(t, fmt.Sprintf("right, of %d Lines", len(a.Lines)), impl.AuditRight(a), true)
		same(t, "asked", isAnAudit(a), true)
	}
	for _, a := range wrongAudits() {
		same(t, fmt.Sprintf("not right, of %d Lines and %d Links", len(a.Lines), len(a.Links)), impl.AuditRight(a), false)
		same(t, "asked", isAnAudit(a), false)
	}
	for n := range 30 {
		same(t, "so many Lines", impl.AuditRight(someAudit(n)), n <= 12)
		for links := range 30 {
			same(t, "so many Links", impl.AuditRight(impl.Audit{Lines: someLines(n), Links: someAudit(links).Links}), n <= 12 && links == n)
		}
	}
	for _, x := range append(rightLines(), wrongLines()...) {
		same(t, "of a Line", impl.AuditRight(auditAsked(x)), isALine(x))
		same(t, "behind another one", impl.AuditRight(auditAsked(someLine(3), x)), isALine(x))
	}
}

// Every log, right or not, and every Line.
func TestAuditAddEdges(t *testing.T) {
	lines := []impl.Line{{Kind: 1}, line(2, "k1", "", 1, 3), line(5, strings.Repeat("z", 20), long(32), 1, 2, 3, 4, 5, 6), someLine(0),
		{}, {Kind: 6}, line(2, "1", ""), line(3, "", long(31)), line(4, "", "", 2, 1)}
	for _, a := range append(rightAudits(), wrongAudits()...) {
		for _, x := range lines {
			out := impl.AuditAdd(a, x)
			sameAuditOut(t, "AuditAdd", out, addedAsked(a, x))
			if out.Code == impl.OK && !impl.AuditRight(out.Audit) {
				t.Errorf("what AuditAdd tells is not right: %+v", out.Audit)
			}
		}
	}
	for _, x := range append(rightLines(), wrongLines()...) {
		for _, n := range []int{0, 1, 5, 11, 12, 13} {
			sameAuditOut(t, "AuditAdd of any Line", impl.AuditAdd(someAudit(n), x), addedAsked(someAudit(n), x))
		}
	}
}

// What is handed back beside each code, one by one, and which fault is named of two.
func TestAuditAddCodes(t *testing.T) {
	full, turnedOne := someAudit(12), someAudit(12)
	turnedOne.Links[11] = turned(turnedOne.Links[11], 31, 1)
	x, tooLong := line(2, "k1", "", 1, 2), long(impl.MaxBytes+1)
	for _, c := range []struct {
		what string
		a    impl.Audit
		x    impl.Line
		want impl.AuditOut
	}{
		{"the first one", impl.Audit{}, x, impl.AuditOut{Audit: auditAsked(x)}},
		{"the last one", someAudit(11), someLine(11), impl.AuditOut{Audit: someAudit(12)}},
		{"no room", full, x, impl.AuditOut{Code: impl.ErrFull}},
		{"no room, no Line", full, impl.Line{}, impl.AuditOut{Code: impl.ErrForm}},
		{"no room, a link turned", turnedOne, x, impl.AuditOut{Code: impl.ErrForm}},
		{"no room, no Line, a link turned", turnedOne, impl.Line{}, impl.AuditOut{Code: impl.ErrForm}},
		{"one too many are there", someAudit(13), x, impl.AuditOut{Code: impl.ErrForm}},
		{"far too many are there", someAudit(impl.MaxList + 1), x, impl.AuditOut{Code: impl.ErrForm}},
		{"far too many links", impl.Audit{Links: make([]string, impl.MaxList+1)}, x, impl.AuditOut{Code: impl.ErrForm}},
		{"a link far too long", impl.Audit{Lines: someLines(1), Links: []string{tooLong}}, x, impl.AuditOut{Code: impl.ErrForm}},
		{"a Name far too long", impl.Audit{}, line(2, tooLong, ""), impl.AuditOut{Code: impl.ErrForm}},
		{"a Sum far too long", impl.Audit{}, line(2, "", tooLong), impl.AuditOut{Code: impl.ErrForm}},
		{"far too many Cards", impl.Audit{}, line(2, "", "", make([]int64, impl.MaxList+1)...), impl.AuditOut{Code: impl.ErrForm}},
		{"a Name far too long, and no room", full, line(2, tooLong, ""), impl.AuditOut{Code: impl.ErrForm}},
		{"no Kind", impl.Audit{}, impl.Line{}, impl.AuditOut{Code: impl.ErrForm}},
	} {
		sameAuditOut(t, c.what, impl.AuditAdd(c.a, c.x), c.want)
	}
}

func TestAuditEnd(t *testing.T) {
	for _, a := range append(rightAudits(), wrongAudits()...) {
		same(t, fmt.Sprintf("of %d Lines and %d Links", len(a.Lines), len(a.Links)), impl.AuditEnd(a), endAsked(a))
	}
	same(t, "of none", impl.AuditEnd(impl.Audit{}), impl.Digest("box"))
	same(t, "of a link without a Line", impl.AuditEnd(impl.Audit{Links: []string{impl.Digest("box")}}), "")
	same(t, "of a Line without a link", impl.AuditEnd(impl.Audit{Lines: someLines(1)}), "")
	for n := 1; n <= 13; n++ {
		a := someAudit(n)
		want := a.Links[n-1]
		if n == 13 {
			want = ""
		}
		same(t, "of many", impl.AuditEnd(a), want)
	}
}

// Promise 11: what is added goes on from what there is, whatever is added.
func TestAuditGoesOn(t *testing.T) {
	r := dice(91)
	lines := rightLines()
	for range 60 {
		var a impl.Audit
		for n := range 12 {
			was, x := ownAudit(a), lines[r.Intn(len(lines))]
			out := impl.AuditAdd(a, x)
			same(t, "Code", out.Code, int64(impl.OK))
			b := out.Audit
			if len(b.Lines) != n+1 || len(b.Links) != n+1 {
				t.Fatalf("%d Lines and %d Links behind %d calls", len(b.Lines), len(b.Links), n+1)
			}
			sameAudit(t, "what there was", impl.Audit{Lines: b.Lines[:n], Links: b.Links[:n]}, was)
			same(t, "what was added", equalLines(b.Lines[n], x), true)
			ahead := "box"
			if n > 0 {
				ahead = impl.AuditEnd(was)
			}
			same(t, "its link", b.Links[n], impl.Digest(ahead+impl.LineText(x)))
			same(t, "the end", impl.AuditEnd(b), b.Links[n])
			same(t, "right", impl.AuditRight(b), true)
			same(t, "it extends what there was", impl.Extends(a, b), true)
			same(t, "and not the other way round", impl.Extends(b, a), false)
			a = b
		}
		sameAuditOut(t, "full", impl.AuditAdd(a, lines[r.Intn(len(lines))]), impl.AuditOut{Code: impl.ErrFull})
	}
}

// Promise 11: two logs end alike just where they have the same Lines, in their order.
func TestAuditEndTellsAllLines(t *testing.T) {
	ends := map[string]int{}
	logs := manyLogs()
	for at, a := range logs {
		if other, there := ends[impl.AuditEnd(a)]; there {
			t.Errorf("%+v and %+v end alike", a, logs[other])
		}
		ends[impl.AuditEnd(a)] = at
	}
}

// manyLogs are all of up to three Lines of four that are nearly alike.
func manyLogs() []impl.Audit {
	lines := []impl.Line{line(2, "a", "", 1), line(2, "a", "", 1, 2), line(3, "a", "", 1), line(2, "", long(32), 1)}
	logs := []impl.Audit{{}}
	for at := 0; at < len(logs); at++ {
		for _, x := range lines {
			if len(logs[at].Lines) < 3 {
				logs = append(logs, impl.AuditAdd(logs[at], x).Audit)
			}
		}
	}
	return logs
}
