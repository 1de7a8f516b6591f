package tests

import (
	"fmt"
	"slices"
	"strings"
	"testing"

	"loop.example/g00629/impl"
)

// deedAsked is the box behind what is done by those in it: change tells the first fault, or
// makes it what it is then; x is told in the log, with those that were in.
func deedAsked(b impl.Box, x impl.Line, change func(b *impl.Box, master string) int64) impl.BoxOut {
	if !isABox(b) {
		return impl.BoxOut{Code: impl.ErrForm}
	}
	if len(b.In) < int(b.Need) {
		return impl.BoxOut{Code: impl.ErrQuorum}
	}
	after := ownABox(b)
	code := change(&after, secretAsked(b.Need, b.In))
	if code != impl.OK {
		return impl.BoxOut{Code: code}
	}
	added := addedAsked(b.Audit, line(x.Kind, x.Name, x.Sum, idsIn(b)...))
	if added.Code != impl.OK {
		return impl.BoxOut{Code: added.Code}
	}
	after.Audit = added.Audit
	return impl.BoxOut{Box: after}
}

func hasKey(b impl.Box, name string) bool {
	return slices.ContainsFunc(b.Keys, func(k impl.Key) bool { return k.Name == name })
}

func newKeyAsked(b impl.Box, name string) impl.BoxOut {
	if len(name) > 8000 {
		return impl.BoxOut{Code: impl.ErrSize}
	}
	if !aName.MatchString(name) {
		return impl.BoxOut{Code: impl.ErrForm}
	}
	return deedAsked(b, line(2, name, ""), func(b *impl.Box, master string) int64 {
		switch {
		case hasKey(*b, name):
			return impl.ErrThere
		case len(b.Keys) == 4:
			return impl.ErrFull
		}
		b.Keys = append(b.Keys, boxKeyAsked(master, name))
		slices.SortFunc(b.Keys, func(x, y impl.Key) int { return strings.Compare(x.Name, y.Name) })
		return impl.OK
	})
}

func signKeyAsked(b impl.Box, name, text string) impl.SignOut {
	if len(name) > 8000 || len(text) > 8000 {
		return impl.SignOut{Code: impl.ErrSize}
	}
	var s impl.Sig
	out := deedAsked(b, line(3, name, libraryDigest(text)), func(b *impl.Box, master string) int64 {
		if !hasKey(*b, name) {
			return impl.ErrNone
		}
		s = sigAsked(nameSecret(master, name), text)
		return impl.OK
	})
	if out.Code != impl.OK {
		return impl.SignOut{Code: out.Code}
	}
	return impl.SignOut{Box: out.Box, Sig: s}
}

func issueAsked(b impl.Box, salt string, pins []string) impl.BoxOut {
	if len(salt) > 8000 || len(pins) > 400 {
		return impl.BoxOut{Code: impl.ErrSize}
	}
	if len(pins) != int(b.Cards) || !arePinsAsked(pins) || len(salt) < 1 || len(salt) > 64 {
		return impl.BoxOut{Code: impl.ErrForm}
	}
	var cards []impl.Card
	out := deedAsked(b, line(4, "", ""), func(b *impl.Box, master string) int64 {
		if b.Epoch == 1000000 {
			return impl.ErrFull
		}
		b.Epoch++
		b.Revoked, b.In = nil, nil
		cards = cardsAsked(master, b.Need, b.Epoch, salt, pins)
		return impl.OK
	})
	if out.Code == impl.OK {
		out.Cards = cards
	}
	return out
}

func revokeAsked(b impl.Box, id int64) impl.BoxOut {
	return deedAsked(b, line(5, "", ""), func(b *impl.Box, _ string) int64 {
		switch {
		case id < 1 || id > b.Cards:
			return impl.ErrRange
		case slices.Contains(b.Revoked, id):
			return impl.ErrThere
		case int64(len(b.Revoked)) == b.Cards-b.Need:
			return impl.ErrState
		}
		b.Revoked = append(b.Revoked, id)
		slices.Sort(b.Revoked)
		b.In = slices.DeleteFunc(b.In, func(s impl.Share) bool { return s.Index == id })
		return impl.OK
	})
}

// crowdedBoxes are such with much of something: keys, Lines, Revoked, Epochs, and two of them at once.
func crowdedBoxes() []impl.Box {
	var keys []impl.Key
	for _, name := range []string{"a", "k1", "m", "z"} {
		keys = append(keys, boxKeyAsked("master", name))
	}
	open := []impl.Box{dealtBox("master", 2, 4, 1), dealtBox("master", 2, 4, 1, 3), dealtBox("master", 2, 4, 1, 3, 4), dealtBox("master", 2, 4, 1, 2, 3, 4),
		dealtBox("m", 1, 1, 1), dealtBox(long(16), 6, 6, 1, 2, 3, 4, 5, 6), dealtBox("master", 3, 6, 2, 4, 6)}
	all := open
	for n := range 5 {
		all = append(all, changed(open, withKeys(keys[:n]...), withKeys(keys[4-n:]...))...)
	}
	all = append(all, changed(open[1:2], withRevoked(2), withRevoked(4), withRevoked(2, 4))...)
	all = append(all, changed(open[6:], withRevoked(1), withRevoked(5), withRevoked(1, 5), withRevoked(1, 3, 5), withRevoked(3))...)
	for _, lines := range []int{0, 10, 11, 12} {
		all = append(all, changed(all[:len(open)], withAudit(someAudit(lines)))...)
		all = append(all, changed(open, func(b *impl.Box) { b.Keys, b.Audit = slices.Clone(keys), someAudit(lines) })...)
		all = append(all, changed(open[1:2], func(b *impl.Box) { b.Revoked, b.Audit = []int64{2, 4}, someAudit(lines) })...)
	}
	for _, epoch := range []int64{999998, 999999, 1000000} {
		all = append(all, changed(open, func(b *impl.Box) { b.Epoch = epoch }, func(b *impl.Box) { b.Epoch, b.Audit = epoch, someAudit(12) })...)
	}
	return all
}

func deedBoxes() []impl.Box {
	return slices.Concat(rightBoxes(), wrongBoxes(), crowdedBoxes())
}

// told looks at the box that a call told, of what there was: it is right just where the code is OK.
func told(t *testing.T, what string, was impl.Box, code int64, b impl.Box) {
	t.Helper()
	if areAllOne(was) {
		same(t, what+": right", impl.BoxRight(b), code == impl.OK)
	}
}

// areAllOne tells whether each one that is in goes together with the first ones: of others, see
// TestInsertBehindThoseNeeded.
func areAllOne(b impl.Box) bool {
	for at := int(b.Need); at < len(b.In) && isABox(b); at++ {
		if !areInAsked(changed([]impl.Box{b}, withIn(append(slices.Clone(b.In[:b.Need-1]), b.In[at])...))[0]) {
			return false
		}
	}
	return true
}

func TestNewKeyEdges(t *testing.T) {
	names := []string{"a", "k1", "k001", "z", "zz", strings.Repeat("z", 20), "", "1", strings.Repeat("a", impl.MaxBytes+1)}
	for _, b := range deedBoxes() {
		for _, name := range names {
			out := impl.NewKey(b, name)
			sameBoxOut(t, fmt.Sprintf("NewKey %.25s", name), out, newKeyAsked(b, name))
			told(t, "NewKey", b, out.Code, out.Box)
		}
	}
	for _, b := range crowdedBoxes()[:30] {
		for _, name := range append(rightNames(), noNames()...) {
			sameBoxOut(t, fmt.Sprintf("NewKey %.25s", name), impl.NewKey(b, name), newKeyAsked(b, name))
		}
	}
}

func TestSignKeyEdges(t *testing.T) {
	for _, b := range deedBoxes() {
		for _, name := range []string{"a", "k1", "z", "", "1", strings.Repeat("a", impl.MaxBytes+1)} {
			for _, text := range []string{"", "pay"} {
				out := impl.SignKey(b, name, text)
				sameSignOut(t, fmt.Sprintf("SignKey %.25s", name), out, signKeyAsked(b, name, text))
				told(t, "SignKey", b, out.Code, out.Box)
			}
		}
	}
	for _, b := range crowdedBoxes()[:30] {
		for _, size := range []int{1, 32, 64, 1000, impl.MaxBytes - 7, impl.MaxBytes - 1, impl.MaxBytes, impl.MaxBytes + 1, 2 * impl.MaxBytes} {
			for _, name := range []string{"k1", "none", strings.Repeat("k", impl.MaxBytes), strings.Repeat("k", impl.MaxBytes+1)} {
				sameSignOut(t, fmt.Sprintf("SignKey of %d bytes", size), impl.SignKey(b, name, long(size)), signKeyAsked(b, name, long(size)))
			}
		}
		for _, name := range append(rightNames(), noNames()...) {
			sameSignOut(t, fmt.Sprintf("SignKey %.25s", name), impl.SignKey(b, name, "pay"), signKeyAsked(b, name, "pay"))
		}
	}
}

func TestIssueEdges(t *testing.T) {
	for _, b := range deedBoxes() {
		cards := int(min(max(b.Cards, 0), 10))
		for _, n := range []int{cards - 1, cards, cards + 1, impl.MaxList + 1} {
			pins := slices.Repeat([]string{"4444"}, max(n, 0))
			out := impl.Issue(b, "new", pins)
			sameBoxOut(t, fmt.Sprintf("Issue of %d pins", n), out, issueAsked(b, "new", pins))
			told(t, "Issue", b, out.Code, out.Box)
		}
		sameBoxOut(t, "Issue of the old salt", impl.Issue(b, boxSalt, somePins(cards)), issueAsked(b, boxSalt, somePins(cards)))
		sameBoxOut(t, "Issue without a salt", impl.Issue(b, "", somePins(cards)), issueAsked(b, "", somePins(cards)))
	}
	for _, b := range crowdedBoxes()[:30] {
		cards := int(b.Cards)
		for _, salt := range []string{"", "\x00", long(63), long(64), long(65), long(256 + 1), long(impl.MaxBytes), long(impl.MaxBytes + 1)} {
			for _, n := range []int{0, 1, cards - 1, cards, cards + 1, 6, 7, impl.MaxList, impl.MaxList + 1} {
				pins := slices.Repeat([]string{"12345678"}, n)
				sameBoxOut(t, fmt.Sprintf("Issue of %d bytes, %d pins", len(salt), n), impl.Issue(b, salt, pins), issueAsked(b, salt, pins))
			}
		}
		for at := range cards {
			for _, pin := range append(append(rightPins(), noPins()...), longPins()...) {
				pins := somePins(cards)
				pins[at] = pin
				sameBoxOut(t, fmt.Sprintf("Issue of %.25s", pin), impl.Issue(b, "new", pins), issueAsked(b, "new", pins))
			}
		}
	}
}

func TestRevokeEdges(t *testing.T) {
	for _, b := range deedBoxes() {
		for _, id := range append(noNumbers(), 1, 2, 3, 4, 5, 6, 7, 8, b.Cards, b.Cards+1) {
			out := impl.Revoke(b, id)
			sameBoxOut(t, fmt.Sprintf("Revoke of %d", id), out, revokeAsked(b, id))
			told(t, "Revoke", b, out.Code, out.Box)
		}
	}
}

// By numbers that an independent reckoning made.
func TestDeedsKnown(t *testing.T) {
	for _, c := range []struct {
		master string
		name   string
		public int64
		pay    impl.Sig
		none   impl.Sig
	}{
		{"master", "k1", 9428, impl.Sig{E: 3926, S: 4808}, impl.Sig{E: 1373, S: 782}},
		{"master", "a", 1703, impl.Sig{E: 2908, S: 1420}, impl.Sig{E: 1647, S: 1022}},
		{"master", strings.Repeat("z", 20), 4971, impl.Sig{E: 1002, S: 3630}, impl.Sig{E: 3184, S: 4368}},
		{"\x00", "k1", 8982, impl.Sig{E: 2526, S: 4820}, impl.Sig{E: 330, S: 2160}},
		{"\x00", "a", 6243, impl.Sig{E: 2628, S: 1523}, impl.Sig{E: 2380, S: 602}},
		{"\x00\x01\x02\x03\x04\x05\x06\x07\x08\t\n\x0b\x0c\r\x0e\x0f", "k1", 1058, impl.Sig{E: 3531, S: 3883}, impl.Sig{E: 2835, S: 1881}},
		{"\x00\x01\x02\x03\x04\x05\x06\x07\x08\t\n\x0b\x0c\r\x0e\x0f", strings.Repeat("z", 20), 5323, impl.Sig{E: 507, S: 3654}, impl.Sig{E: 578, S: 3597}},
	} {
		b := dealtBox(c.master, 2, 3, 1, 3)
		made := impl.NewKey(b, c.name)
		same(t, "Public", impl.KeyOf(made.Box, c.name), c.public)
		same(t, "of a text", impl.SignKey(made.Box, c.name, "pay").Sig, c.pay)
		same(t, "of none", impl.SignKey(made.Box, c.name, "").Sig, c.none)
	}
	n := impl.BoxNew("master", 2, "salt", somePins(3))
	b := impl.Insert(impl.Insert(n.Box, n.Cards[2], "3333").Box, n.Cards[0], "1111").Box
	b = impl.SignKey(impl.NewKey(b, "k1").Box, "k1", "pay").Box
	i := impl.Issue(b, "new", somePins(3))
	b = impl.Insert(impl.Insert(i.Box, i.Cards[2], "3333").Box, i.Cards[1], "2222").Box
	b = impl.Revoke(b, 2).Box
	for at, link := range []string{"59c157bf41f1f82881f0633c513e536fce93d0887e3273e39984970a7dd83423", "81c36c397f4bbaa776ccb5a5a4e216ce77eebe58716bcbf987f25208bf751668",
		"e86f3585d56eac27a8831f9fe6864089e65193ae819b91db6bd0342e60adfb75", "575a003a53210a17d46090311f988e6d8652992ec32c98287b02f251dd5686cd",
		"be1c61b49077f0e33db11d37c7d3b8b9dc984f989ecf0a8d883a403def38ba43"} {
		same(t, "link", hexed(b.Audit.Links[at]), link)
	}
	for at, data := range []string{"4a770247e072", "234d91127272", "045be021f772"} {
		same(t, "new Share", i.Cards[at].Share, impl.Share{Index: int64(at + 1), Data: string(unhexed(t, data))})
	}
	same(t, "left", fmt.Sprint(b.Revoked, idsIn(b), b.Epoch), "[2] [3] 2")
}

// What is handed back beside each code, and which fault is named of two and more.
func TestDeedCodes(t *testing.T) {
	closed, open := dealtBox("master", 2, 4, 3), dealtBox("master", 2, 4, 1, 3)
	keys := []impl.Key{boxKeyAsked("master", "a"), boxKeyAsked("master", "b"), boxKeyAsked("master", "c"), boxKeyAsked("master", "d")}
	with := func(b impl.Box, changes ...func(b *impl.Box)) impl.Box {
		b = ownABox(b)
		for _, change := range changes {
			change(&b)
		}
		return b
	}
	full, last := withAudit(someAudit(12)), func(b *impl.Box) { b.Epoch = 1000000 }
	tooLong, tooMany := strings.Repeat("a", impl.MaxBytes+1), slices.Repeat([]string{"1234"}, impl.MaxList+1)
	signKey := func(b impl.Box, name, text string) impl.BoxOut {
		out := impl.SignKey(b, name, text)
		if out.Code != impl.OK {
			same(t, "no Sig", out.Sig, impl.Sig{})
		}
		return impl.BoxOut{Box: out.Box, Code: out.Code}
	}
	for _, c := range []struct {
		what string
		got  impl.BoxOut
		code int64
	}{
		{"a key", impl.NewKey(open, "k1"), impl.OK},
		{"a key of no name", impl.NewKey(open, "1"), impl.ErrForm},
		{"a key of no name, closed", impl.NewKey(closed, "1"), impl.ErrForm},
		{"a key of no name, no box", impl.NewKey(impl.Box{}, "1"), impl.ErrForm},
		{"a key of a name too long", impl.NewKey(open, strings.Repeat("a", 21)), impl.ErrForm},
		{"a key of a text too long", impl.NewKey(impl.Box{}, tooLong), impl.ErrSize},
		{"a key, closed", impl.NewKey(closed, "k1"), impl.ErrQuorum},
		{"a key, no box", impl.NewKey(impl.Box{}, "k1"), impl.ErrForm},
		{"a key that is there, closed", impl.NewKey(with(closed, withKeys(keys...)), "a"), impl.ErrQuorum},
		{"a key that is there", impl.NewKey(with(open, withKeys(keys[:1]...)), "a"), impl.ErrThere},
		{"a key that is there, all are", impl.NewKey(with(open, withKeys(keys...)), "a"), impl.ErrThere},
		{"a key that is there, no room in the log", impl.NewKey(with(open, withKeys(keys...), full), "a"), impl.ErrThere},
		{"a key more than may be", impl.NewKey(with(open, withKeys(keys...)), "e"), impl.ErrFull},
		{"the last key", impl.NewKey(with(open, withKeys(keys[:3]...)), "e"), impl.OK},
		{"a key, no room in the log", impl.NewKey(with(open, full), "k1"), impl.ErrFull},
		{"a key, closed, no room in the log", impl.NewKey(with(closed, full), "k1"), impl.ErrQuorum},
		{"signed", signKey(with(open, withKeys(keys...)), "d", "pay"), impl.OK},
		{"signed by none", signKey(open, "d", "pay"), impl.ErrNone},
		{"signed by none, closed", signKey(closed, "d", "pay"), impl.ErrQuorum},
		{"signed by no name", signKey(open, "1", "pay"), impl.ErrNone},
		{"signed by no name, closed", signKey(closed, "", "pay"), impl.ErrQuorum},
		{"signed by none, no room in the log", signKey(with(open, full), "d", "pay"), impl.ErrNone},
		{"signed, no room in the log", signKey(with(open, withKeys(keys...), full), "d", "pay"), impl.ErrFull},
		{"signed, no box", signKey(impl.Box{}, "d", "pay"), impl.ErrForm},
		{"a text too long, no box", signKey(impl.Box{}, "d", tooLong), impl.ErrSize},
		{"a name too long, closed", signKey(closed, tooLong, ""), impl.ErrSize},
		{"issued", impl.Issue(open, "new", somePins(4)), impl.OK},
		{"issued, one pin fewer", impl.Issue(open, "new", somePins(3)), impl.ErrForm},
		{"issued, one pin more", impl.Issue(open, "new", somePins(5)), impl.ErrForm},
		{"issued, one pin more, closed", impl.Issue(closed, "new", somePins(5)), impl.ErrForm},
		{"issued, no salt, closed", impl.Issue(closed, "", somePins(4)), impl.ErrForm},
		{"issued, a pin that is none, closed, the last Epoch", impl.Issue(with(closed, last), "new", []string{"1111", "2222", "3333", "444"}), impl.ErrForm},
		{"issued, a pin too long for a text", impl.Issue(open, "new", []string{"1111", "2222", "3333", strings.Repeat("4", impl.MaxBytes+1)}), impl.ErrForm},
		{"issued, closed", impl.Issue(closed, "new", somePins(4)), impl.ErrQuorum},
		{"issued, closed, the last Epoch", impl.Issue(with(closed, last), "new", somePins(4)), impl.ErrQuorum},
		{"issued, the last Epoch", impl.Issue(with(open, last), "new", somePins(4)), impl.ErrFull},
		{"issued, no room in the log", impl.Issue(with(open, full), "new", somePins(4)), impl.ErrFull},
		{"issued, too many pins, no box", impl.Issue(impl.Box{}, "new", tooMany), impl.ErrSize},
		{"issued, a salt too long, closed", impl.Issue(closed, tooLong, nil), impl.ErrSize},
		{"issued, no box, no pins", impl.Issue(impl.Box{}, "new", nil), impl.ErrForm},
		{"revoked", impl.Revoke(open, 1), impl.OK},
		{"revoked, one that is not in", impl.Revoke(open, 4), impl.OK},
		{"revoked, none", impl.Revoke(open, 0), impl.ErrRange},
		{"revoked, above Cards", impl.Revoke(open, 5), impl.ErrRange},
		{"revoked, above Cards, closed", impl.Revoke(closed, 5), impl.ErrQuorum},
		{"revoked, no box", impl.Revoke(impl.Box{}, 0), impl.ErrForm},
		{"revoked again", impl.Revoke(with(open, withRevoked(2)), 2), impl.ErrThere},
		{"revoked again, as many as may be", impl.Revoke(with(open, withRevoked(2, 4)), 2), impl.ErrThere},
		{"revoked, as many as may be", impl.Revoke(with(open, withRevoked(2, 4)), 1), impl.ErrState},
		{"revoked, above Cards, as many as may be", impl.Revoke(with(open, withRevoked(2, 4)), 6), impl.ErrRange},
		{"revoked, as many as may be, no room in the log", impl.Revoke(with(open, withRevoked(2, 4), full), 1), impl.ErrState},
		{"revoked, no room in the log", impl.Revoke(with(open, full), 1), impl.ErrFull},
		{"revoked, where all are needed", impl.Revoke(dealtBox("m", 3, 3, 1, 2, 3), 1), impl.ErrState},
		{"revoked, the only one", impl.Revoke(dealtBox("m", 1, 1, 1), 1), impl.ErrState},
	} {
		same(t, c.what, c.got.Code, c.code)
		if c.code != impl.OK {
			sameBoxOut(t, c.what, c.got, impl.BoxOut{Code: c.code})
		} else {
			same(t, c.what+": right", impl.BoxRight(c.got.Box), true)
		}
	}
}
