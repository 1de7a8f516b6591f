package tests

import (
	"fmt"
	"strings"
	"testing"
	"unsafe"

	"loop.example/g00629/impl"
)

func triedAsked(c impl.Card, pin string) impl.CardOut {
	switch {
	case len(pin) > impl.MaxBytes:
		return impl.CardOut{Code: impl.ErrSize}
	case !isACard(c) || !aPin.MatchString(pin):
		return impl.CardOut{Code: impl.ErrForm}
	case c.Tries == 0:
		return impl.CardOut{Code: impl.ErrBlocked}
	case pinMac(c.Id, pin) != c.Pin:
		c.Tries--
		return impl.CardOut{Card: c, Code: impl.ErrPin}
	}
	c.Tries = 3
	return impl.CardOut{Card: c, Text: c.Share.Data}
}

func pinnedAsked(c impl.Card, old, pin string) impl.CardOut {
	tried := triedAsked(c, old)
	switch {
	case len(old) > impl.MaxBytes || len(pin) > impl.MaxBytes:
		return impl.CardOut{Code: impl.ErrSize}
	case !aPin.MatchString(pin):
		return impl.CardOut{Code: impl.ErrForm}
	case tried.Code == impl.OK:
		tried.Card.Pin = pinMac(c.Id, pin)
	}
	tried.Text = ""
	return tried
}

func sameCardOut(t *testing.T, what string, got, want impl.CardOut) {
	t.Helper()
	if got != want {
		t.Errorf("%s: got %+v, want %+v", what, got, want)
	}
}

// Every card, right or not, of every number of Tries, by every pin.
func TestCardTryEdges(t *testing.T) {
	var pins []string
	pins = append(append(append(pins, rightPins()...), noPins()...), longPins()...)
	for _, c := range append(rightCards(), wrongCards()...) {
		for _, pin := range pins {
			sameCardOut(t, "CardTry", impl.CardTry(c, pin), triedAsked(c, pin))
		}
	}
}

func TestCardPinEdges(t *testing.T) {
	pins := append(rightPins(), "", "123", "123456789", "12a4", strings.Repeat("1", impl.MaxBytes), strings.Repeat("1", impl.MaxBytes+1))
	cards := wrongCards()
	for tries := range int64(4) {
		cards = append(cards, card(1, 0, "1234", tries, share(6, "x")), card(6, 1000000, "99999999", tries, share(1, long(16))))
	}
	for _, c := range cards {
		for _, old := range pins {
			for _, pin := range pins {
				got, want := impl.CardPin(c, old, pin), pinnedAsked(c, old, pin)
				sameCardOut(t, fmt.Sprintf("CardPin of %d and %d bytes", len(old), len(pin)), got, want)
			}
		}
	}
}

// What is handed back beside each code, one by one.
func TestCardTryCodes(t *testing.T) {
	c := impl.CardNew(2, 5, "1234", share(3, "xy")).Card
	one, none := c, c
	one.Tries, none.Tries = 1, 0
	last := one
	last.Tries = 0
	for _, x := range []struct {
		what string
		card impl.Card
		pin  string
		want impl.CardOut
	}{
		{"right", c, "1234", impl.CardOut{Card: c, Text: "xy"}},
		{"right, the last Try", one, "1234", impl.CardOut{Card: c, Text: "xy"}},
		{"wrong, the last Try", one, "4321", impl.CardOut{Card: last, Code: impl.ErrPin}},
		{"right, no Try", none, "1234", impl.CardOut{Code: impl.ErrBlocked}},
		{"wrong, no Try", none, "4321", impl.CardOut{Code: impl.ErrBlocked}},
		{"no pin, no Try", none, "123", impl.CardOut{Code: impl.ErrForm}},
		{"no pin, the last Try", one, "123", impl.CardOut{Code: impl.ErrForm}},
		{"no card", impl.Card{}, "1234", impl.CardOut{Code: impl.ErrForm}},
		{"no card, and no pin", impl.Card{}, "", impl.CardOut{Code: impl.ErrForm}},
		{"no card, and a pin too long", impl.Card{}, long(impl.MaxBytes + 1), impl.CardOut{Code: impl.ErrSize}},
		{"no Try, and a pin too long", none, long(impl.MaxBytes + 1), impl.CardOut{Code: impl.ErrSize}},
	} {
		sameCardOut(t, x.what, impl.CardTry(x.card, x.pin), x.want)
	}
}

func TestCardPinCodes(t *testing.T) {
	c := impl.CardNew(2, 5, "1234", share(3, "xy")).Card
	other := impl.CardNew(2, 5, "777777", share(3, "xy")).Card
	one, none := c, c
	one.Tries, none.Tries = 1, 0
	tooLong := long(impl.MaxBytes + 1)
	for _, x := range []struct {
		what     string
		card     impl.Card
		old, pin string
		want     impl.CardOut
	}{
		{"right", c, "1234", "777777", impl.CardOut{Card: other}},
		{"right, the last Try", one, "1234", "777777", impl.CardOut{Card: other}},
		{"right, the same one", one, "1234", "1234", impl.CardOut{Card: c}},
		{"wrong, the last Try", one, "4321", "777777", impl.CardOut{Card: none, Code: impl.ErrPin}},
		{"wrong, to the right one", one, "4321", "1234", impl.CardOut{Card: none, Code: impl.ErrPin}},
		{"wrong, to no pin", one, "4321", "777", impl.CardOut{Code: impl.ErrForm}},
		{"right, to no pin", one, "1234", "777", impl.CardOut{Code: impl.ErrForm}},
		{"none, to a pin", one, "123", "7777", impl.CardOut{Code: impl.ErrForm}},
		{"right, no Try", none, "1234", "777777", impl.CardOut{Code: impl.ErrBlocked}},
		{"wrong, no Try", none, "4321", "777777", impl.CardOut{Code: impl.ErrBlocked}},
		{"right, no Try, to no pin", none, "1234", "777", impl.CardOut{Code: impl.ErrForm}},
		{"none, no Try", none, "123", "7777", impl.CardOut{Code: impl.ErrForm}},
		{"no card", impl.Card{}, "1234", "777777", impl.CardOut{Code: impl.ErrForm}},
		{"the old one too long", none, tooLong, "777", impl.CardOut{Code: impl.ErrSize}},
		{"the new one too long", none, "123", tooLong, impl.CardOut{Code: impl.ErrSize}},
		{"no card, both too long", impl.Card{}, tooLong, tooLong, impl.CardOut{Code: impl.ErrSize}},
		{"no card, the new one too long", impl.Card{}, "1234", tooLong, impl.CardOut{Code: impl.ErrSize}},
	} {
		sameCardOut(t, x.what, impl.CardPin(x.card, x.old, x.pin), x.want)
	}
}

// Promise 9: of all pins of four bytes one alone makes the card tell its Share.
func TestCardTellsOneAlone(t *testing.T) {
	c := impl.CardNew(4, 9, "0420", share(2, "hidden")).Card
	less := c
	less.Tries = 2
	for n := range 10000 {
		pin := fmt.Sprintf("%04d", n)
		want := impl.CardOut{Card: less, Code: impl.ErrPin}
		if pin == "0420" {
			want = impl.CardOut{Card: c, Text: "hidden"}
		}
		sameCardOut(t, pin, impl.CardTry(c, pin), want)
	}
	for _, pin := range []string{"00420", "04200", "000420", "042000", "00000420", "04200000", "04200420"} {
		sameCardOut(t, pin, impl.CardTry(c, pin), impl.CardOut{Card: less, Code: impl.ErrPin})
	}
}

// Promise 9: what is known is the mac of the card's number and the pin, and nothing else.
func TestCardTellsByItsMac(t *testing.T) {
	c := impl.CardNew(4, 9, "1234", share(2, "hidden")).Card
	for id := int64(1); id <= 6; id++ {
		moved := c
		moved.Id = id
		same(t, "the Pin of another card", impl.CardTry(moved, "1234").Code == impl.OK, id == 4)
		moved.Pin = pinMac(id, "1234")
		same(t, "its own Pin", impl.CardTry(moved, "1234").Text, "hidden")
	}
	for at := range 32 {
		for by := 1; by < 256; by++ {
			other := c
			other.Pin = turned(c.Pin, at, byte(by))
			out := impl.CardTry(other, "1234")
			other.Tries = 2
			sameCardOut(t, "one byte turned", out, impl.CardOut{Card: other, Code: impl.ErrPin})
		}
	}
	for _, s := range []impl.Share{share(1, "other"), share(6, "\x00"), share(2, long(16))} {
		for _, epoch := range []int64{0, 1, 1000000} {
			other := impl.Card{Id: 4, Epoch: epoch, Pin: c.Pin, Tries: 1, Share: s}
			same(t, "another Share, and Epoch", impl.CardTry(other, "1234").Text, s.Data)
		}
	}
}

// Promise 9: told wrongly MaxTries times, the card is shut out, and stays so.
func TestCardShutOut(t *testing.T) {
	for _, change := range []bool{false, true} {
		wrongly := func(c impl.Card, pin string) impl.CardOut {
			if change {
				return impl.CardPin(c, pin, "1234")
			}
			return impl.CardTry(c, pin)
		}
		c := impl.CardNew(3, 1, "1234", share(3, "hidden")).Card
		for left := int64(2); left >= 0; left-- {
			out := wrongly(c, "4321")
			c.Tries = left
			sameCardOut(t, "wrongly", out, impl.CardOut{Card: c, Code: impl.ErrPin})
			c = out.Card
			same(t, "still right", impl.CardRight(c), true)
		}
		for range 5 {
			for _, pin := range []string{"1234", "4321", "00000000"} {
				sameCardOut(t, "shut out", impl.CardTry(c, pin), impl.CardOut{Code: impl.ErrBlocked})
				sameCardOut(t, "shut out", impl.CardPin(c, pin, "1234"), impl.CardOut{Code: impl.ErrBlocked})
			}
			c = impl.CardRead(impl.CardBytes(c)).Card
		}
	}
}

// Promise 9: told rightly ahead of that, it has MaxTries again.
func TestCardHasAllTriesAgain(t *testing.T) {
	first := impl.CardNew(3, 1, "1234", share(3, "hidden")).Card
	for wrong := range 3 {
		c := first
		for range wrong {
			c = impl.CardTry(c, "4321").Card
		}
		same(t, "fewer", c.Tries, int64(3-wrong))
		sameCardOut(t, "rightly", impl.CardTry(c, "1234"), impl.CardOut{Card: first, Text: "hidden"})
		sameCardOut(t, "by a new pin", impl.CardPin(c, "1234", "1234"), impl.CardOut{Card: first})
	}
}

// A new pin alone is right then, the old one is wrong.
func TestCardPinTakesTheOldOnesPlace(t *testing.T) {
	for _, old := range rightPins() {
		for _, pin := range rightPins() {
			c := impl.CardNew(5, 2, old, share(1, "xy")).Card
			c.Tries = 2
			c = impl.CardPin(c, old, pin).Card
			same(t, "as if made by it", c, impl.CardNew(5, 2, pin, share(1, "xy")).Card)
			same(t, "by the new one", impl.CardTry(c, pin).Text, "xy")
			same(t, "by the old one", impl.CardTry(c, old).Code == impl.OK, old == pin)
		}
	}
}

// Promise 9, over many calls: which pin is right and how many Tries there are is kept
// beside the card, and whoever is refused goes on with the card that there was.
func TestCardGoesOn(t *testing.T) {
	r := dice(73)
	pins := []string{"0000", "1111", "22222", "33333333", "44", "5555555555"}
	for range 400 {
		known, tries := pins[r.Intn(4)], int64(3)
		c := impl.CardNew(1+r.Int63n(6), r.Int63n(1000001), known, share(1+r.Int63n(6), randomText(r, 1+r.Intn(16)))).Card
		data := c.Share.Data
		for range 20 {
			told, next := pins[r.Intn(6)], pins[r.Intn(6)]
			change := r.Intn(3) == 0
			out := impl.CardTry(c, told)
			if change {
				out = impl.CardPin(c, told, next)
			}
			code, text := int64(impl.OK), ""
			switch {
			case len(told) < 4 || len(told) > 8 || change && (len(next) < 4 || len(next) > 8):
				code = impl.ErrForm
			case tries == 0:
				code = impl.ErrBlocked
			case told != known:
				code = impl.ErrPin
				tries--
			case change:
				known, tries = next, 3
			default:
				text, tries = data, 3
			}
			same(t, "Code", out.Code, code)
			same(t, "Text", out.Text, text)
			if code == impl.OK || code == impl.ErrPin {
				c = out.Card
			} else {
				same(t, "no Card", out.Card, impl.Card{})
			}
			same(t, "Tries", c.Tries, tries)
			same(t, "back from its bytes", impl.CardRead(impl.CardBytes(c)).Card, c)
		}
	}
}

func sharesMemory(a, b string) bool {
	return len(a) > 0 && len(b) > 0 && unsafe.StringData(a) == unsafe.StringData(b)
}

// What is told is in memory of its own, and what was handed in stays as it is.
func TestCardMemory(t *testing.T) {
	data, pin := strings.Clone("hidden"), strings.Clone("1234")
	s := share(3, data)
	c := impl.CardNew(3, 1, pin, s).Card
	same(t, "of a new card", sharesMemory(c.Share.Data, data), false)
	kept := impl.Card{Id: 3, Epoch: 1, Pin: strings.Clone(c.Pin), Tries: 3, Share: share(3, strings.Clone(data))}
	for what, out := range map[string]impl.CardOut{
		"rightly":       impl.CardTry(c, pin),
		"wrongly":       impl.CardTry(c, "4321"),
		"changed":       impl.CardPin(c, pin, "5678"),
		"wrongly, not":  impl.CardPin(c, "4321", "5678"),
		"to the same":   impl.CardPin(c, pin, pin),
		"read":          impl.CardRead(impl.CardBytes(c)),
		"refused":       impl.CardTry(c, "x"),
		"shut out":      impl.CardTry(impl.Card{Id: 3, Epoch: 1, Pin: c.Pin, Share: c.Share}, pin),
		"not a card":    impl.CardTry(impl.Card{}, pin),
		"not a new pin": impl.CardPin(c, pin, "x"),
	} {
		same(t, what+": the Pin", sharesMemory(out.Card.Pin, c.Pin), false)
		same(t, what+": the Data", sharesMemory(out.Card.Share.Data, c.Share.Data), false)
		same(t, what+": the Text", sharesMemory(out.Text, c.Share.Data) || sharesMemory(out.Text, out.Card.Share.Data), false)
		same(t, what+": the card", c, kept)
	}
	same(t, "the Share", s, share(3, "hidden"))
	same(t, "the pin", pin, "1234")
}
