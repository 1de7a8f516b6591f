package tests

import (
	"fmt"
	"math/bits"
	"math/rand"
	"slices"
	"testing"

	"loop.example/g00629/impl"
)

// chosen are the cards of a choice, told by its bits.
func chosen(cards []impl.Card, choice int) []impl.Card {
	var out []impl.Card
	for at, c := range cards {
		if choice>>at&1 == 1 {
			out = append(out, c)
		}
	}
	return out
}

// letIn puts the cards in, each of which must come in, by the pin of somePins that is its own.
func letIn(t *testing.T, b impl.Box, cards []impl.Card) impl.Box {
	t.Helper()
	for _, c := range cards {
		out := impl.Insert(b, c, somePins(6)[c.Id-1])
		same(t, "comes in", out.Code, int64(impl.OK))
		same(t, "is told as it is", len(out.Cards) == 1 && out.Cards[0] == c, true)
		same(t, "right with it", impl.BoxRight(out.Box), true)
		b = out.Box
	}
	return b
}

// refusesDeeds looks that nothing at all is done by those that are in.
func refusesDeeds(t *testing.T, what string, b impl.Box) {
	t.Helper()
	refused := impl.BoxOut{Code: impl.ErrQuorum}
	same(t, what+": opened", impl.Opened(b), false)
	sameBoxOut(t, what+": NewKey", impl.NewKey(b, "new"), refused)
	sameSignOut(t, what+": SignKey", impl.SignKey(b, "k1", "pay"), impl.SignOut{Code: impl.ErrQuorum})
	sameSignOut(t, what+": SignKey of none", impl.SignKey(b, "none", "pay"), impl.SignOut{Code: impl.ErrQuorum})
	sameBoxOut(t, what+": Issue", impl.Issue(b, "new", somePins(int(b.Cards))), refused)
	for id := int64(0); id <= 7; id++ {
		sameBoxOut(t, what+": Revoke", impl.Revoke(b, id), refused)
	}
}

// keyedBox has a Key "k1" already, and nobody in.
func keyedBox(t *testing.T, need, cards int64) (impl.Box, []impl.Card) {
	t.Helper()
	n := impl.BoxNew("master", need, boxSalt, somePins(int(cards)))
	b := impl.NewKey(letIn(t, n.Box, n.Cards), "k1").Box
	for id := range cards {
		b = impl.Eject(b, id+1).Box
	}
	return b, n.Cards
}

// Promises 12 and 13: of every choice of cards, fewer than are needed do nothing, and as many do.
func TestEveryChoiceOfCards(t *testing.T) {
	eachSize(func(need, cards int64) {
		b, all := keyedBox(t, need, cards)
		for choice := range 1 << cards {
			in := letIn(t, b, chosen(all, choice))
			what := fmt.Sprintf("%d of %d, %b", need, cards, choice)
			if bits.OnesCount(uint(choice)) < int(need) {
				refusesDeeds(t, what, in)
				continue
			}
			same(t, what+": opened", impl.Opened(in), true)
			sameBoxOut(t, what, impl.NewKey(in, "new"), newKeyAsked(in, "new"))
			sameSignOut(t, what, impl.SignKey(in, "k1", "pay"), signKeyAsked(in, "k1", "pay"))
			sameBoxOut(t, what, impl.Issue(in, "new", somePins(int(cards))), issueAsked(in, "new", somePins(int(cards))))
			sameBoxOut(t, what, impl.Revoke(in, 1), revokeAsked(in, 1))
			same(t, what+": its key", impl.NewKey(in, "new").Code, int64(impl.OK))
		}
	})
}

// Promise 12: who is ejected counts no more, in whatever order they go.
func TestEjectedCountNoMore(t *testing.T) {
	eachSize(func(need, cards int64) {
		b, all := keyedBox(t, need, cards)
		r := dice(100*need + cards)
		for range 5 {
			in := letIn(t, b, all)
			for n, at := range r.Perm(int(cards)) {
				out := impl.Eject(in, int64(at+1))
				same(t, "Code", out.Code, int64(impl.OK))
				same(t, "no card", len(out.Cards), 0)
				same(t, "right", impl.BoxRight(out.Box), true)
				in = out.Box
				left := cards - int64(n) - 1
				same(t, "so many are left", int64(len(in.In)), left)
				same(t, "opened", impl.Opened(in), left >= need)
				sameBoxOut(t, "ejected again", impl.Eject(in, int64(at+1)), impl.BoxOut{Code: impl.ErrNone})
			}
			same(t, "as it was", equalBoxes(in, b), true)
		}
	})
}

// Promise 12: whatever order they come in, the box is the same then.
func TestOrderDoesNotCount(t *testing.T) {
	n := impl.BoxNew("master", 3, boxSalt, somePins(5))
	want := letIn(t, n.Box, n.Cards)
	r := dice(101)
	for range 30 {
		var cards []impl.Card
		for _, at := range r.Perm(5) {
			cards = append(cards, n.Cards[at])
		}
		same(t, "the box", equalBoxes(letIn(t, n.Box, cards), want), true)
	}
}

// Promise 12: a wrong number lets nobody in, at no time; the card is told with one Try less.
func TestWrongNumberLetsNobodyIn(t *testing.T) {
	wrong := []string{"0000", "1110", "11111", "01111", "2222", "3333", "99999999", "00001111"}
	eachSize(func(need, cards int64) {
		n := impl.BoxNew("master", need, boxSalt, somePins(int(cards)))
		for ahead := range n.Cards {
			b := letIn(t, n.Box, n.Cards[1:][:max(ahead-1, 0)])
			for _, pin := range wrong {
				c := n.Cards[0]
				for left := int64(2); left >= 0; left-- {
					out := impl.Insert(b, c, pin)
					same(t, "Code", out.Code, int64(impl.ErrPin))
					same(t, "the box as it is", equalBoxes(out.Box, b), true)
					same(t, "one card", len(out.Cards), 1)
					c.Tries = left
					same(t, "the card", out.Cards[0], c)
				}
				for _, any := range []string{pin, "1111", "0000"} {
					sameBoxOut(t, "shut out", impl.Insert(b, c, any), impl.BoxOut{Code: impl.ErrBlocked})
				}
			}
		}
	})
}

// Promise 12: a card that was made up brings nobody nearer to the master. Where it is in, the
// others are too few; where they are one too few, it does not come in.
func TestForgedCardsAreNoHelp(t *testing.T) {
	for need := int64(2); need <= 6; need++ {
		n := impl.BoxNew("master", need, boxSalt, somePins(6))
		for at := range n.Cards {
			for _, data := range []string{"masteR", "master", "\x00\x00\x00\x00\x00\x00", turned(n.Cards[at].Share.Data, 0, 1), turned(n.Cards[at].Share.Data, 5, 128)} {
				forged := n.Cards[at]
				forged.Share.Data = data
				others := slices.Delete(slices.Clone(n.Cards), at, at+1)
				b := letIn(t, n.Box, others[:need-1])
				sameBoxOut(t, "comes last", impl.Insert(b, forged, somePins(6)[at]), impl.BoxOut{Code: impl.ErrSum})
				b = letIn(t, n.Box, append([]impl.Card{forged}, others[:need-2]...))
				refusesDeeds(t, "forged", b)
				for _, c := range others[need-2:] {
					sameBoxOut(t, "comes behind it", impl.Insert(b, c, somePins(6)[c.Id-1]), impl.BoxOut{Code: impl.ErrSum})
				}
				b = letIn(t, impl.Eject(b, forged.Id).Box, others[need-2:])
				same(t, "without it", impl.Opened(b), need < 6)
			}
		}
	}
}

// player is somebody who comes and goes, does and tries, and keeps beside the box what must be.
type player struct {
	t     *testing.T
	r     *rand.Rand
	need  int64
	box   impl.Box
	cards []impl.Card
	old   []impl.Card
	pins  []string
	in    map[int64]bool
	out   map[int64]bool // those Revoked
	keys  map[string]int64
	lines []impl.Line
}

func newPlayer(t *testing.T, seed, need, cards int64) *player {
	p := &player{t: t, r: dice(seed), need: need, pins: somePins(int(cards)), keys: map[string]int64{}}
	n := impl.BoxNew("master", need, boxSalt, p.pins)
	p.box, p.cards, p.lines = n.Box, n.Cards, []impl.Line{{Kind: impl.LnInit}}
	p.in, p.out = map[int64]bool{}, map[int64]bool{}
	return p
}

func (p *player) ids() []int64 {
	var ids []int64
	for id := int64(1); id <= 6; id++ {
		if p.in[id] {
			ids = append(ids, id)
		}
	}
	return ids
}

// insert tries one of the cards, or an old one, by any pin.
func (p *player) insert() {
	at := p.r.Intn(len(p.cards))
	c, id := p.cards[at], int64(at+1)
	pin := append(p.pins, "0000")[p.r.Intn(len(p.pins)+1)]
	if p.r.Intn(3) > 0 {
		pin = p.pins[at]
	}
	want := int64(impl.OK)
	switch {
	case p.out[id]:
		want = impl.ErrState
	case p.in[id]:
		want = impl.ErrThere
	case c.Tries == 0:
		want = impl.ErrBlocked
	case pin != p.pins[at]:
		want = impl.ErrPin
	}
	got := impl.Insert(p.box, c, pin)
	same(p.t, "Insert", got.Code, want)
	switch want {
	case impl.OK:
		p.in[id] = true
		p.box, p.cards[at] = got.Box, got.Cards[0]
	case impl.ErrPin:
		same(p.t, "let in", equalBoxes(got.Box, p.box), true)
		same(p.t, "Tries", got.Cards[0].Tries, c.Tries-1)
		p.cards[at] = got.Cards[0]
	}
	if len(p.old) > 0 {
		sameBoxOut(p.t, "an old one", impl.Insert(p.box, p.old[at], somePins(6)[at]), impl.BoxOut{Code: impl.ErrState})
	}
}

func (p *player) eject() {
	id := 1 + p.r.Int63n(6)
	got := impl.Eject(p.box, id)
	if !p.in[id] {
		sameBoxOut(p.t, "Eject", got, impl.BoxOut{Code: impl.ErrNone})
		return
	}
	same(p.t, "Eject", got.Code, int64(impl.OK))
	p.in[id] = false
	p.box = got.Box
}

// isDone looks at the code of a deed, and keeps what the log must tell of it.
func (p *player) isDone(code, fault int64, x impl.Line) bool {
	want := int64(impl.OK)
	switch {
	case len(p.ids()) < int(p.need):
		want = impl.ErrQuorum
	case fault != impl.OK:
		want = fault
	case len(p.lines) == 12:
		want = impl.ErrFull
	}
	same(p.t, fmt.Sprintf("a deed of the kind %d", x.Kind), code, want)
	if want == impl.OK {
		p.lines = append(p.lines, line(x.Kind, x.Name, x.Sum, p.ids()...))
	}
	return want == impl.OK && code == want
}

func (p *player) newKey() {
	name := fmt.Sprintf("k%d", p.r.Intn(6))
	got, fault := impl.NewKey(p.box, name), int64(impl.OK)
	if p.keys[name] > 0 {
		fault = impl.ErrThere
	} else if len(p.keys) == 4 {
		fault = impl.ErrFull
	}
	if p.isDone(got.Code, fault, line(2, name, "")) {
		p.box, p.keys[name] = got.Box, boxKeyAsked("master", name).Public
	}
}

func (p *player) signKey() {
	name, text := fmt.Sprintf("k%d", p.r.Intn(6)), randomText(p.r, p.r.Intn(50))
	got, fault := impl.SignKey(p.box, name, text), int64(impl.OK)
	if p.keys[name] == 0 {
		fault = impl.ErrNone
	}
	if p.isDone(got.Code, fault, line(3, name, libraryDigest(text))) {
		p.box = got.Box
		same(p.t, "verified", impl.VerifyBy(p.keys[name], text, got.Sig), true)
	}
}

func (p *player) issue() {
	pins := slices.Clone(p.pins)
	pins[0] = fmt.Sprintf("%06d", p.r.Intn(1000000))
	got := impl.Issue(p.box, randomText(p.r, 1+p.r.Intn(64)), pins)
	if p.isDone(got.Code, impl.OK, line(4, "", "")) {
		p.box, p.old, p.cards, p.pins = got.Box, p.cards, got.Cards, pins
		p.in, p.out = map[int64]bool{}, map[int64]bool{}
	}
}

func (p *player) revoke() {
	id, fault := p.r.Int63n(8), int64(impl.OK)
	switch {
	case id < 1 || id > int64(len(p.cards)):
		fault = impl.ErrRange
	case p.out[id]:
		fault = impl.ErrThere
	case len(p.out) == len(p.cards)-int(p.need):
		fault = impl.ErrState
	}
	got := impl.Revoke(p.box, id)
	if p.isDone(got.Code, fault, line(5, "", "")) {
		p.box, p.out[id] = got.Box, true
		delete(p.in, id)
	}
}

// look holds the box against what is kept beside it.
func (p *player) look() {
	b := p.box
	same(p.t, "right", impl.BoxRight(b), true)
	same(p.t, "in", slices.Equal(idsIn(b), p.ids()), true)
	same(p.t, "opened", impl.Opened(b), len(p.ids()) >= int(p.need))
	same(p.t, "Revoked", len(b.Revoked), len(p.out))
	for _, id := range b.Revoked {
		same(p.t, "Revoked", p.out[id], true)
	}
	same(p.t, "Keys", len(b.Keys), len(p.keys))
	for name, public := range p.keys {
		same(p.t, "KeyOf", impl.KeyOf(b, name), public)
	}
	sameAudit(p.t, "the log", b.Audit, auditAsked(p.lines...))
}

// Promises 12 and 13, over many calls in any order: the box stays right, what is done stands in
// its log, and what may not be is refused.
func TestBoxStaysRight(t *testing.T) {
	eachSize(func(need, cards int64) {
		for game := range int64(4) {
			p := newPlayer(t, 1000*need+100*cards+game, need, cards)
			for range 150 {
				moves := []func(){p.insert, p.insert, p.insert, p.insert, p.eject, p.newKey, p.signKey, p.signKey, p.revoke, p.issue}
				moves[p.r.Intn(len(moves)-int(game%2))]()
				p.look()
			}
		}
	})
}

// Promise 13: each deed is told behind all that stood there, whatever that is, with those that were in.
func TestWhatIsDoneStandsInTheLog(t *testing.T) {
	for lines := range 13 {
		for _, ids := range [][]int64{{1, 2}, {1, 4}, {3, 4}, {2, 3, 4}, {1, 2, 3, 4}} {
			b := dealtBox("master", 2, 4, ids...)
			b.Audit, b.Keys = someAudit(lines), []impl.Key{boxKeyAsked("master", "k1")}
			signed := impl.SignKey(b, "k1", "pay")
			for _, c := range []struct {
				line impl.Line
				code int64
				box  impl.Box
			}{
				{line(2, "k2", "", ids...), impl.NewKey(b, "k2").Code, impl.NewKey(b, "k2").Box},
				{line(3, "k1", libraryDigest("pay"), ids...), signed.Code, signed.Box},
				{line(4, "", "", ids...), impl.Issue(b, "new", somePins(4)).Code, impl.Issue(b, "new", somePins(4)).Box},
				{line(5, "", "", ids...), impl.Revoke(b, 3).Code, impl.Revoke(b, 3).Box},
			} {
				if lines == 12 {
					same(t, "no room", c.code, int64(impl.ErrFull))
					same(t, "nothing told", equalBoxes(c.box, impl.Box{}), true)
					continue
				}
				a := c.box.Audit
				same(t, "Code", c.code, int64(impl.OK))
				same(t, "it extends what there was", impl.Extends(b.Audit, a), true)
				sameAudit(t, "the log", a, auditAsked(append(someLines(lines), c.line)...))
			}
		}
	}
}

// Promise 14: behind Issue every choice of as many new cards as are needed opens the box; its Key
// is what it was, and verifies what is signed by it, ahead and behind; the old cards do no more.
func TestNewCards(t *testing.T) {
	eachSize(func(need, cards int64) {
		b, old := keyedBox(t, need, cards)
		public := impl.KeyOf(b, "k1")
		ahead := impl.SignKey(letIn(t, b, old), "k1", "pay").Sig
		same(t, "signed ahead", impl.VerifyBy(public, "pay", ahead), true)
		i := impl.Issue(letIn(t, b, old[cards-need:]), "new", somePins(int(cards)))
		same(t, "Code", i.Code, int64(impl.OK))
		same(t, "nobody is in", len(i.Box.In)+len(i.Box.Revoked), 0)
		same(t, "the Epoch", i.Box.Epoch, b.Epoch+1)
		same(t, "all else", i.Box.Need == need && i.Box.Cards == cards && i.Box.Check == b.Check && slices.Equal(i.Box.Keys, b.Keys), true)
		same(t, "as many cards", len(i.Cards), int(cards))
		for choice := range 1 << cards {
			in := letIn(t, i.Box, chosen(i.Cards, choice))
			for at, c := range old {
				sameBoxOut(t, "an old one", impl.Insert(in, c, somePins(6)[at]), impl.BoxOut{Code: impl.ErrState})
				sameBoxOut(t, "an old one, a wrong pin", impl.Insert(in, c, "0000"), impl.BoxOut{Code: impl.ErrState})
			}
			same(t, "opened", impl.Opened(in), bits.OnesCount(uint(choice)) >= int(need))
			same(t, "its Key", impl.KeyOf(in, "k1"), public)
			if !impl.Opened(in) {
				refusesDeeds(t, "too few new ones", in)
				continue
			}
			behind := impl.SignKey(in, "k1", "pay")
			same(t, "signed behind", behind.Sig, ahead)
			same(t, "another text", impl.VerifyBy(public, "more", impl.SignKey(in, "k1", "more").Sig), true)
			same(t, "and no other one", impl.VerifyBy(public, "paz", ahead), verdictAsked(public, "paz", ahead))
		}
	})
}

// Promise 14: the old Shares do no more either, were they put on cards of the new Epoch: not by
// themselves, and not together with new ones.
func TestOldSharesDoNoMore(t *testing.T) {
	for need := int64(2); need <= 6; need++ {
		n := impl.BoxNew("master", need, boxSalt, somePins(6))
		i := impl.Issue(letIn(t, n.Box, n.Cards), "new", somePins(6))
		for at, c := range n.Cards {
			c.Epoch = 2
			others := slices.Delete(slices.Clone(i.Cards), at, at+1)
			b := letIn(t, i.Box, others[:need-1])
			sameBoxOut(t, "a relabelled one", impl.Insert(b, c, somePins(6)[at]), impl.BoxOut{Code: impl.ErrSum})
		}
	}
}

// Promise 14, from Epoch to Epoch: each one's cards alone come in, the Keys stay.
func TestManyEpochs(t *testing.T) {
	n := impl.BoxNew("master", 2, boxSalt, somePins(3))
	b := impl.NewKey(letIn(t, n.Box, n.Cards), "k1").Box
	all := [][]impl.Card{n.Cards}
	for epoch := int64(1); epoch <= 9; epoch++ {
		same(t, "the Epoch", b.Epoch, epoch)
		i := impl.Issue(letIn(t, impl.Eject(b, 3).Box, nil), fmt.Sprintf("salt %d", epoch), somePins(3))
		same(t, "Code", i.Code, int64(impl.OK))
		for _, old := range all {
			for at, c := range old {
				sameBoxOut(t, "an old one", impl.Insert(i.Box, c, somePins(3)[at]), impl.BoxOut{Code: impl.ErrState})
			}
		}
		all = append(all, i.Cards)
		b = letIn(t, i.Box, i.Cards)
		same(t, "its Key", impl.KeyOf(b, "k1"), boxKeyAsked("master", "k1").Public)
	}
	same(t, "so many Lines", len(b.Audit.Lines), 11)
}

// Who is Revoked comes in no more, until new cards are issued.
func TestRevokedComesInNoMore(t *testing.T) {
	eachSize(func(need, cards int64) {
		n := impl.BoxNew("master", need, boxSalt, somePins(int(cards)))
		b := letIn(t, n.Box, n.Cards)
		for id := int64(1); id <= cards; id++ {
			out := impl.Revoke(b, id)
			if id > cards-need {
				sameBoxOut(t, "too few would be left", out, impl.BoxOut{Code: impl.ErrState})
				continue
			}
			same(t, "Code", out.Code, int64(impl.OK))
			b = out.Box
			same(t, "still opened", impl.Opened(b) && impl.BoxRight(b), true)
			same(t, "Revoked", slices.Equal(b.Revoked, firstIDs(id)) && slices.Equal(idsIn(b), lastIDs(cards-id, cards)), true)
			sameBoxOut(t, "comes again", impl.Insert(b, n.Cards[id-1], somePins(6)[id-1]), impl.BoxOut{Code: impl.ErrState})
			sameBoxOut(t, "Revoked again", impl.Revoke(b, id), impl.BoxOut{Code: impl.ErrThere})
		}
		i := impl.Issue(b, "new", somePins(int(cards)))
		same(t, "all of the new ones", len(letIn(t, i.Box, i.Cards).In), int(cards))
	})
}
