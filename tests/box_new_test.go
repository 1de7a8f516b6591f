package tests

import (
	"fmt"
	"slices"
	"strings"
	"testing"

	"loop.example/g00629/impl"
)

func arePinsAsked(pins []string) bool {
	return !slices.ContainsFunc(pins, func(pin string) bool { return !aPin.MatchString(pin) })
}

// cardsAsked are the cards of a box, new ones.
func cardsAsked(master string, need, epoch int64, salt string, pins []string) []impl.Card {
	var cards []impl.Card
	for n, s := range sharesAsked(master, need, int64(len(pins)), salt) {
		cards = append(cards, card(s.Index, epoch, pins[n], 3, share(int64(n+1), s.Data)))
	}
	return cards
}

func boxNewAsked(master string, need int64, salt string, pins []string) impl.BoxOut {
	if len(master) > 8000 || len(salt) > 8000 || len(pins) > 400 {
		return impl.BoxOut{Code: impl.ErrSize}
	}
	cards := cardsAsked(master, need, 1, salt, pins)
	if len(cards) == 0 || !arePinsAsked(pins) {
		return impl.BoxOut{Code: impl.ErrForm}
	}
	return impl.BoxOut{Box: dealtBox(master, need, int64(len(pins))), Cards: cards}
}

// somePins are n right ones, all unlike.
func somePins(n int) []string {
	var pins []string
	for i := range n {
		pins = append(pins, fmt.Sprintf("%04d", 1111*(i+1)))
	}
	return pins
}

func TestBoxNewKnown(t *testing.T) {
	for _, c := range []struct {
		master string
		need   int64
		salt   string
		check  string
		shares []string
	}{
		{"master", 2, "salt", "4c7dbc357c19a0d4d06fc7769139b03c496c021ee8c296fef9bfc62db0cf102d",
			[]string{"174568696f1a", "9929454e71a2", "e30d5e537bca"}},
		{"\x00", 1, "s", "356977e50774d277d2f14291ed4e6fa579ec63fc2b7f59d3198794049f61b7fb", []string{"00"}},
		{"\x00\x01\x02\x03\x04\x05\x06\x07\x08\t\n\x0b\x0c\r\x0e\x0f", 6, strings.Repeat("S", 64),
			"81ced7b9f15e9e7b3b1dcdfc78680a7f075bf69c0b4bc06a1c9bc5a55ebc71df",
			[]string{"7d7880267d666223089b306d8ac3667c", "73b0b3db9b8973cbc6625c4802cd5d8b", "25cac4ef778d3dcd95c93cc74fe7966c",
				"9ab22b3e747ab5cdd2f3d73e3afb5a8c", "bf3eefba67134f96dcb9ef0046f6c8df", "f5f8e5fd5163497751d1f04ed6175622"}},
	} {
		pins := []string{"54611bfadff0eec9577b09c2da1fd9ffd8209ea3cae60b0e900ec955e5bfc8a6",
			"5c5cd8c94acb12100d23e19d9f2255378b1bec508377356fb6a9d8d4b9317169", "c7513b01169504a62462b083960c4a749d1ecb6b3170da5e0fa2c696fb4d7be8",
			"e1f8496cd534e3711498e9538bad7b40470b553f3545669882fc0ef802b818ef", "37d0504859219db73b44303d12585981c7fdecf154abe28bdb4c4e74d3743cb5",
			"3e6a3c93ab5ddcc60e3680fa933408a139e04b5765a70e7b1005f136e98aefe8"}
		out := impl.BoxNew(c.master, c.need, c.salt, somePins(len(c.shares)))
		b := out.Box
		same(t, "Code", out.Code, int64(impl.OK))
		same(t, "Need, Cards and Epoch", b.Need == c.need && b.Cards == int64(len(c.shares)) && b.Epoch == 1, true)
		same(t, "Check", hexed(b.Check), c.check)
		same(t, "nothing yet", len(b.Keys)+len(b.Revoked)+len(b.In), 0)
		same(t, "one Line", len(b.Audit.Lines) == 1 && equalLines(b.Audit.Lines[0], impl.Line{Kind: impl.LnInit}), true)
		same(t, "its link", hexed(b.Audit.Links[0]), "59c157bf41f1f82881f0633c513e536fce93d0887e3273e39984970a7dd83423")
		for n, data := range c.shares {
			got := out.Cards[n]
			same(t, "Share", hexed(got.Share.Data), data)
			same(t, "Pin", hexed(got.Pin), pins[n])
			same(t, "numbers", [4]int64{got.Id, got.Share.Index, got.Epoch, got.Tries}, [4]int64{int64(n + 1), int64(n + 1), 1, 3})
		}
	}
}

// Every master by every need, salt and list of pins, right or not.
func TestBoxNewEdges(t *testing.T) {
	masters := []string{"", "m", "master", long(15), long(16), long(17), strings.Repeat("\x00", 16), strings.Repeat("\xff", 32), long(256 + 1),
		long(impl.MaxBytes), long(impl.MaxBytes + 1)}
	salts := []string{"", "s", "\x00", long(63), long(64), long(65), long(256 + 1), long(impl.MaxBytes), long(impl.MaxBytes + 1)}
	lists := [][]string{nil, {}, {"1234"}, {"123"}, {"1234", ""}, somePins(2), slices.Repeat([]string{"00000000"}, 3), somePins(6), somePins(7),
		slices.Repeat([]string{"1234"}, impl.MaxList), slices.Repeat([]string{"1234"}, impl.MaxList+1), make([]string, impl.MaxList+1), somePins(256 + 3)[253:]}
	for _, master := range masters {
		for _, salt := range salts {
			for _, pins := range lists {
				cards := int64(len(pins))
				for _, need := range append(noNumbers(), 1, 2, cards-1, cards, cards+1, 6, 7) {
					out := impl.BoxNew(master, need, salt, pins)
					sameBoxOut(t, fmt.Sprintf("BoxNew of %d bytes, %d, %d bytes, %d pins", len(master), need, len(salt), cards), out,
						boxNewAsked(master, need, salt, pins))
					same(t, "right", impl.BoxRight(out.Box), out.Code == impl.OK)
				}
			}
		}
	}
}

// Each text that is no pin, at each place among pins; and each that is one.
func TestBoxNewPins(t *testing.T) {
	for n := 1; n <= 7; n++ {
		for at := range n {
			for _, pin := range append(append(rightPins(), noPins()...), longPins()...) {
				pins := somePins(n)
				pins[at] = pin
				out := impl.BoxNew("master", 1, "salt", pins)
				sameBoxOut(t, "BoxNew", out, boxNewAsked("master", 1, "salt", pins))
				want := int64(impl.OK)
				if n == 7 || !aPin.MatchString(pin) {
					want = impl.ErrForm
				}
				same(t, "Code", out.Code, want)
			}
		}
	}
}

// What is handed back beside each code, and which fault is named of two.
func TestBoxNewCodes(t *testing.T) {
	tooLong, tooMany := long(impl.MaxBytes+1), slices.Repeat([]string{"1234"}, impl.MaxList+1)
	for _, c := range []struct {
		what   string
		master string
		need   int64
		salt   string
		pins   []string
		code   int64
	}{
		{"nothing wrong", "m", 2, "s", somePins(3), impl.OK},
		{"no master", "", 2, "s", somePins(3), impl.ErrForm},
		{"a master too long for one", long(17), 2, "s", somePins(3), impl.ErrForm},
		{"a master of all bytes a text may have", long(impl.MaxBytes), 2, "s", somePins(3), impl.ErrForm},
		{"no pins", "m", 1, "s", nil, impl.ErrForm},
		{"no pins, none needed", "m", 0, "s", nil, impl.ErrForm},
		{"none needed", "m", 0, "s", somePins(3), impl.ErrForm},
		{"all needed", "m", 3, "s", somePins(3), impl.OK},
		{"more needed", "m", 4, "s", somePins(3), impl.ErrForm},
		{"no salt, one needed", "m", 1, "", somePins(3), impl.ErrForm},
		{"a salt too long for one", "m", 1, long(65), somePins(1), impl.ErrForm},
		{"as many pins as a list may have", "m", 1, "s", tooMany[1:], impl.ErrForm},
		{"a pin too long for a text", "m", 1, "s", []string{"1234", tooLong}, impl.ErrForm},
		{"a text too long as master", tooLong, 2, "s", somePins(3), impl.ErrSize},
		{"a text too long as salt", "m", 2, tooLong, somePins(3), impl.ErrSize},
		{"too many pins", "m", 2, "s", tooMany, impl.ErrSize},
		{"too many that are none", "m", 2, "s", make([]string, impl.MaxList+1), impl.ErrSize},
		{"no master, too many pins", "", 2, "s", tooMany, impl.ErrSize},
		{"no master, a salt too long", "", 2, tooLong, somePins(3), impl.ErrSize},
		{"no pins, a master too long", tooLong, 0, "", nil, impl.ErrSize},
		{"all too long", tooLong, -1, tooLong, tooMany, impl.ErrSize},
	} {
		out := impl.BoxNew(c.master, c.need, c.salt, c.pins)
		same(t, c.what, out.Code, c.code)
		if c.code != impl.OK {
			sameBoxOut(t, c.what, out, impl.BoxOut{Code: c.code})
		}
	}
}

// Boxes of one master are alike whatever the salt and the pins; their cards are not.
func TestBoxNewHangsOn(t *testing.T) {
	a := impl.BoxNew("master", 2, "salt", somePins(3))
	b := impl.BoxNew("master", 2, "other", somePins(4)[1:])
	same(t, "the boxes", equalBoxes(a.Box, b.Box), true)
	for n := range a.Cards {
		same(t, "a card", a.Cards[n].Pin == b.Cards[n].Pin || a.Cards[n].Share == b.Cards[n].Share, false)
	}
	c := impl.BoxNew("Master", 2, "salt", somePins(3))
	same(t, "of another master", c.Box.Check == a.Box.Check, false)
}
