package tests

import (
	"fmt"
	"math"
	"slices"
	"strings"
	"testing"

	"loop.example/g00629/impl"
)

func insertAsked(b impl.Box, c impl.Card, pin string) impl.BoxOut {
	tried := triedAsked(c, pin)
	switch {
	case len(pin) > 8000:
		return impl.BoxOut{Code: impl.ErrSize}
	case !isABox(b) || tried.Code == impl.ErrForm:
		return impl.BoxOut{Code: impl.ErrForm}
	case c.Epoch != b.Epoch || c.Id != c.Share.Index || c.Id > b.Cards || slices.Contains(b.Revoked, c.Id):
		return impl.BoxOut{Code: impl.ErrState}
	case slices.Contains(idsIn(b), c.Id):
		return impl.BoxOut{Code: impl.ErrThere}
	case tried.Code == impl.ErrPin:
		return impl.BoxOut{Box: b, Cards: []impl.Card{tried.Card}, Code: impl.ErrPin}
	case tried.Code != impl.OK:
		return impl.BoxOut{Code: tried.Code}
	}
	b = ownABox(b)
	at := 0
	for at < len(b.In) && b.In[at].Index < c.Id {
		at++
	}
	b.In = slices.Insert(b.In, at, c.Share)
	if !isABox(b) {
		return impl.BoxOut{Code: impl.ErrSum}
	}
	return impl.BoxOut{Box: b, Cards: []impl.Card{tried.Card}}
}

func ejectAsked(b impl.Box, id int64) impl.BoxOut {
	if !isABox(b) {
		return impl.BoxOut{Code: impl.ErrForm}
	}
	at := slices.Index(idsIn(b), id)
	if at < 0 {
		return impl.BoxOut{Code: impl.ErrNone}
	}
	b = ownABox(b)
	b.In = slices.Concat(b.In[:at], b.In[at+1:])
	return impl.BoxOut{Box: b}
}

// cardsFor are the cards of a box of "master" and boxSalt, of boxPin, also those above its Cards.
func cardsFor(b impl.Box) []impl.Card {
	need := b.Need
	if !isWithin(1, need, 6) {
		need = 1
	}
	var cards []impl.Card
	for _, s := range sharesAsked("master", need, 6, boxSalt) {
		cards = append(cards, card(s.Index, b.Epoch, boxPin, 3, s))
	}
	return cards
}

// otherCards are such that part in one thing, or two, from a card of the box.
func otherCards(c impl.Card) []impl.Card {
	var all []impl.Card
	add := func(change func(c *impl.Card)) {
		own := c
		change(&own)
		all = append(all, own)
	}
	for tries := range int64(4) {
		add(func(c *impl.Card) { c.Tries = tries })
	}
	for _, by := range []int64{-1, 1, -c.Epoch, math.MaxInt64 - c.Epoch} {
		add(func(c *impl.Card) { c.Epoch += by })
		add(func(c *impl.Card) { c.Epoch += by; c.Tries = 0 })
	}
	for id := int64(0); id <= 7; id++ {
		add(func(c *impl.Card) { c.Id = id; c.Pin = pinMac(id, boxPin) })
		add(func(c *impl.Card) { c.Share.Index = id })
	}
	for _, data := range []string{"", "x", "masteR", c.Share.Data[:5], c.Share.Data + "\x00", turned(c.Share.Data, 0, 1), turned(c.Share.Data, 5, 128), long(16), long(17)} {
		add(func(c *impl.Card) { c.Share.Data = data })
		add(func(c *impl.Card) { c.Share.Data = data; c.Tries = 1 })
	}
	add(func(c *impl.Card) { c.Pin = "" })
	add(func(c *impl.Card) { c.Pin = turned(c.Pin, 31, 1) })
	add(func(c *impl.Card) { *c = impl.Card{} })
	return all
}

// Every box, right or not, and the cards that may come.
func TestInsertEdges(t *testing.T) {
	for _, b := range append(rightBoxes(), wrongBoxes()...) {
		for _, c := range cardsFor(b) {
			for _, pin := range []string{boxPin, "4321", "x"} {
				sameBoxOut(t, "Insert "+pin, impl.Insert(b, c, pin), insertAsked(b, c, pin))
			}
		}
	}
}

// Every card, right or not, of each number.
func TestInsertCards(t *testing.T) {
	boxes := append(baseBoxes(), changed(baseBoxes()[:3], withRevoked(2, 4), func(b *impl.Box) { b.Epoch = 2 }, func(b *impl.Box) { b.Epoch = 1000000 })...)
	for _, b := range append(boxes, dealtBox("master", 1, 2), dealtBox("master", 6, 6, 1, 2, 3, 4, 5), impl.Box{}) {
		for _, right := range cardsFor(b) {
			for _, c := range otherCards(right) {
				for _, pin := range []string{boxPin, "4321", "", strings.Repeat("1", impl.MaxBytes+1)} {
					sameBoxOut(t, fmt.Sprintf("Insert of %+v by %.9s", c, pin), impl.Insert(b, c, pin), insertAsked(b, c, pin))
				}
			}
		}
	}
	for _, c := range append(rightCards(), wrongCards()...) {
		sameBoxOut(t, "Insert", impl.Insert(baseBoxes()[1], c, boxPin), insertAsked(baseBoxes()[1], c, boxPin))
	}
}

func TestInsertPins(t *testing.T) {
	for _, known := range rightPins() {
		c := card(2, 1, known, 2, sharesAsked("master", 2, 4, boxSalt)[1])
		for _, pin := range append(append(rightPins(), noPins()...), longPins()...) {
			for _, b := range append(baseBoxes(), impl.Box{}) {
				sameBoxOut(t, "Insert", impl.Insert(b, c, pin), insertAsked(b, c, pin))
			}
		}
	}
}

// What is handed back beside each code, one by one, and which fault is named of two.
func TestInsertCodes(t *testing.T) {
	b := dealtBox("master", 2, 4, 1)
	revoked := changed([]impl.Box{b}, withRevoked(2, 3))[0]
	c := cardsFor(b)[1]
	tooLong := strings.Repeat("1", impl.MaxBytes+1)
	with := func(change func(c *impl.Card)) impl.Card {
		own := c
		change(&own)
		return own
	}
	again, shutOut := cardsFor(b)[0], with(func(c *impl.Card) { c.Tries = 0 })
	foreign := with(func(c *impl.Card) { c.Share.Data = "masteR" })
	old := with(func(c *impl.Card) { c.Epoch = 0 })
	for _, x := range []struct {
		what string
		b    impl.Box
		c    impl.Card
		pin  string
		want impl.BoxOut
	}{
		{"in", b, c, boxPin, impl.BoxOut{Box: dealtBox("master", 2, 4, 1, 2), Cards: []impl.Card{c}}},
		{"with all Tries again", b, with(func(c *impl.Card) { c.Tries = 1 }), boxPin, impl.BoxOut{Box: dealtBox("master", 2, 4, 1, 2), Cards: []impl.Card{c}}},
		{"a wrong pin", b, c, "4321", impl.BoxOut{Box: b, Cards: []impl.Card{with(func(c *impl.Card) { c.Tries = 2 })}, Code: impl.ErrPin}},
		{"the last wrong pin", b, with(func(c *impl.Card) { c.Tries = 1 }), "4321", impl.BoxOut{Box: b, Cards: []impl.Card{shutOut}, Code: impl.ErrPin}},
		{"shut out", b, shutOut, boxPin, impl.BoxOut{Code: impl.ErrBlocked}},
		{"shut out, a wrong pin", b, shutOut, "4321", impl.BoxOut{Code: impl.ErrBlocked}},
		{"no box", impl.Box{}, c, boxPin, impl.BoxOut{Code: impl.ErrForm}},
		{"no card", b, impl.Card{}, boxPin, impl.BoxOut{Code: impl.ErrForm}},
		{"no pin", b, c, "123", impl.BoxOut{Code: impl.ErrForm}},
		{"no pin, a card shut out", b, shutOut, "123", impl.BoxOut{Code: impl.ErrForm}},
		{"no pin, an old card", b, old, "123", impl.BoxOut{Code: impl.ErrForm}},
		{"a text too long as pin", b, c, tooLong, impl.BoxOut{Code: impl.ErrSize}},
		{"a text too long as pin, no box, no card", impl.Box{}, impl.Card{}, tooLong, impl.BoxOut{Code: impl.ErrSize}},
		{"an old card", b, old, boxPin, impl.BoxOut{Code: impl.ErrState}},
		{"an old card, shut out", b, with(func(c *impl.Card) { c.Epoch, c.Tries = 0, 0 }), boxPin, impl.BoxOut{Code: impl.ErrState}},
		{"an old card, a wrong pin", b, old, "4321", impl.BoxOut{Code: impl.ErrState}},
		{"a card of the Epoch to come", b, with(func(c *impl.Card) { c.Epoch = 2 }), boxPin, impl.BoxOut{Code: impl.ErrState}},
		{"a card of a Share of another Index", b, with(func(c *impl.Card) { c.Share.Index = 3 }), boxPin, impl.BoxOut{Code: impl.ErrState}},
		{"a card of a Share that is in", b, with(func(c *impl.Card) { c.Share = b.In[0] }), boxPin, impl.BoxOut{Code: impl.ErrState}},
		{"a card above Cards", b, cardsFor(b)[4], boxPin, impl.BoxOut{Code: impl.ErrState}},
		{"a card above Cards, a wrong pin", b, cardsFor(b)[5], "4321", impl.BoxOut{Code: impl.ErrState}},
		{"Revoked", revoked, c, boxPin, impl.BoxOut{Code: impl.ErrState}},
		{"Revoked, shut out", revoked, shutOut, "4321", impl.BoxOut{Code: impl.ErrState}},
		{"in already", b, again, boxPin, impl.BoxOut{Code: impl.ErrThere}},
		{"in already, a wrong pin", b, again, "4321", impl.BoxOut{Code: impl.ErrThere}},
		{"in already, no pin", b, again, "", impl.BoxOut{Code: impl.ErrForm}},
		{"in already, an old card", b, card(1, 2, boxPin, 3, again.Share), boxPin, impl.BoxOut{Code: impl.ErrState}},
		{"in already, shut out", b, card(1, 1, boxPin, 0, again.Share), boxPin, impl.BoxOut{Code: impl.ErrThere}},
		{"a Share that does not belong to the others", b, foreign, boxPin, impl.BoxOut{Code: impl.ErrSum}},
		{"such a one, a wrong pin", b, foreign, "4321", impl.BoxOut{Box: b, Cards: []impl.Card{with(func(c *impl.Card) { c.Share.Data = "masteR"; c.Tries = 2 })}, Code: impl.ErrPin}},
		{"a Share of another length", b, with(func(c *impl.Card) { c.Share.Data = "maste" }), boxPin, impl.BoxOut{Code: impl.ErrSum}},
		{"a card made for another number", b, card(2, 1, boxPin, 3, share(2, b.In[0].Data)), boxPin, impl.BoxOut{Code: impl.ErrSum}},
	} {
		sameBoxOut(t, x.what, impl.Insert(x.b, x.c, x.pin), x.want)
		sameBoxOut(t, x.what+", asked", insertAsked(x.b, x.c, x.pin), x.want)
	}
}

// Every box, right or not, by numbers about those of its cards.
func TestEjectEdges(t *testing.T) {
	ids := append(noNumbers(), 1, 2, 3, 4, 5, 6, 7, 8)
	for _, b := range append(rightBoxes(), wrongBoxes()...) {
		for _, id := range ids {
			sameBoxOut(t, fmt.Sprintf("Eject of %d", id), impl.Eject(b, id), ejectAsked(b, id))
		}
	}
	b := dealtBox("master", 2, 4, 1, 3, 4)
	for id := int64(-1); id <= 8; id++ {
		want := impl.BoxOut{Code: impl.ErrNone}
		switch id {
		case 1:
			want = impl.BoxOut{Box: dealtBox("master", 2, 4, 3, 4)}
		case 3:
			want = impl.BoxOut{Box: dealtBox("master", 2, 4, 1, 4)}
		case 4:
			want = impl.BoxOut{Box: dealtBox("master", 2, 4, 1, 3)}
		}
		sameBoxOut(t, "Eject", impl.Eject(b, id), want)
	}
}

// A Share behind as many as are needed is not among those whose Join is asked for: a wrong one
// there is not found, until it stands among the first ones.
func TestInsertBehindThoseNeeded(t *testing.T) {
	b := dealtBox("master", 2, 4, 1, 3)
	wrong := card(4, 1, boxPin, 3, share(4, "masteR"))
	out := impl.Insert(b, wrong, boxPin)
	same(t, "Code", out.Code, int64(impl.OK))
	same(t, "opened", impl.Opened(out.Box), true)
	sameShares(t, "in", out.Box.In, append(slices.Clone(b.In), wrong.Share))
	same(t, "its key", impl.NewKey(out.Box, "k1").Box.Keys[0], boxKeyAsked("master", "k1"))
	sameBoxOut(t, "ahead of those needed", impl.Insert(b, card(2, 1, boxPin, 3, share(2, "masteR")), boxPin), impl.BoxOut{Code: impl.ErrSum})
	sameBoxOut(t, "the wrong one goes", impl.Eject(out.Box, 4), impl.BoxOut{Box: b})
	same(t, "another one goes", impl.BoxRight(impl.Eject(out.Box, 1).Box), false)
}
