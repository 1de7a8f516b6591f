package tests

import (
	"encoding/binary"
	"math"
	"regexp"
	"strings"
	"testing"

	"loop.example/g00629/impl"
)

var aPin = regexp.MustCompile(`\A[0-9]{4,8}\z`)

// pinMac is the Pin of the card of that number, by the library.
func pinMac(id int64, pin string) string {
	return libraryMac(string(binary.AppendVarint(nil, id)), pin)
}

func isACard(c impl.Card) bool {
	return isWithin(1, c.Id, 6) && isWithin(0, c.Epoch, 1000000) && len(c.Pin) == 32 && isWithin(0, c.Tries, 3) &&
		isWithin(1, c.Share.Index, 6) && isWithin(1, int64(len(c.Share.Data)), 16)
}

func card(id, epoch int64, pin string, tries int64, s impl.Share) impl.Card {
	return impl.Card{Id: id, Epoch: epoch, Pin: pinMac(id, pin), Tries: tries, Share: s}
}

func newAsked(id, epoch int64, pin string, s impl.Share) impl.CardOut {
	c := card(id, epoch, pin, 3, s)
	if len(pin) > impl.MaxBytes {
		return impl.CardOut{Code: impl.ErrSize}
	}
	if !aPin.MatchString(pin) || !isACard(c) {
		return impl.CardOut{Code: impl.ErrForm}
	}
	return impl.CardOut{Card: c}
}

// rightPins are of all sizes that may be.
func rightPins() []string {
	return []string{"0000", "1234", "9999", "01234", "12340", "123456", "0001234", "00000000", "12345678", "99999999"}
}

// noPins are too short, too long, or of other bytes; none has more than MaxBytes.
func noPins() []string {
	return []string{"", "0", "12", "123", "999", "123456789", "000000000", "1234567890", strings.Repeat("1", 16),
		strings.Repeat("1", 256+4), strings.Repeat("1", impl.MaxBytes-1), strings.Repeat("1", impl.MaxBytes),
		"abcd", "12a4", "x234", "123x", " 1234", "1234 ", "1234\n", "12 34", "-123", "+1234", "1.23", "1e10", "0x12",
		"/000", "000/", ":999", "999:", "\x00\x00\x00\x00", "1234\x00", "\xff\xff\xff\xff", "\xb0\xb1\xb2\xb3",
		"١٢٣٤", "١٢", "12٣", "１２", "1２", "İİ", "İ123", "12İ", "𝟘𝟙", "1234\x80", "\xef\xbf\xbd1"}
}

// longPins are refused ahead of all else.
func longPins() []string {
	return []string{strings.Repeat("1", impl.MaxBytes+1), long(impl.MaxBytes + 1), strings.Repeat("0", 2*impl.MaxBytes)}
}

// edgeShares are right ones and others.
func edgeShares() []impl.Share {
	return []impl.Share{share(1, "x"), share(6, long(16)), share(3, "\x00"), share(2, strings.Repeat("\xff", 15)),
		{}, share(0, "x"), share(7, "x"), share(-1, "x"), share(1, ""), share(1, long(17)), share(7, ""),
		share(1<<32+1, "x"), share(math.MinInt64, "x"), share(math.MaxInt64, "x"), share(1, long(impl.MaxBytes+1))}
}

// rightCards are of every edge that a card may have.
func rightCards() []impl.Card {
	var cards []impl.Card
	for _, id := range []int64{1, 2, 6} {
		for _, epoch := range []int64{0, 1, 63, 64, 8191, 8192, 999999, 1000000} {
			for tries := range int64(4) {
				cards = append(cards, card(id, epoch, "1234", tries, share(1, "x")), card(id, epoch, "99999999", tries, share(6, long(16))))
			}
		}
	}
	noughts, ones := strings.Repeat("\x00", 32), strings.Repeat("\xff", 32)
	return append(cards, impl.Card{Id: 3, Pin: noughts, Tries: 3, Share: share(2, "\x00")},
		impl.Card{Id: 4, Pin: ones, Tries: 2, Share: share(5, strings.Repeat("\xff", 16))})
}

// wrongCards are right ones but for one thing, and some for two.
func wrongCards() []impl.Card {
	var cards []impl.Card
	add := func(change func(c *impl.Card)) {
		for _, tries := range []int64{0, 1, 3} {
			c := card(2, 1, "1234", tries, share(2, "xy"))
			change(&c)
			cards = append(cards, c)
		}
	}
	for _, id := range append(noNumbers(), 7, 8, 1<<32+1) {
		add(func(c *impl.Card) { c.Id = id; c.Pin = pinMac(id, "1234") })
		add(func(c *impl.Card) { c.Share.Index = id })
		add(func(c *impl.Card) { c.Id = id; c.Share.Index = id })
	}
	for _, epoch := range []int64{-1, -2, 1000001, 1 << 32, math.MinInt64, math.MaxInt64} {
		add(func(c *impl.Card) { c.Epoch = epoch })
	}
	for _, size := range []int{0, 1, 4, 16, 31, 33, 64, 256 + 32, impl.MaxBytes, impl.MaxBytes + 1} {
		add(func(c *impl.Card) { c.Pin = long(size) })
	}
	for _, tries := range []int64{-1, -2, 4, 5, 1 << 32, 1<<32 + 1, math.MinInt64, math.MaxInt64} {
		add(func(c *impl.Card) { c.Tries = tries })
		add(func(c *impl.Card) { c.Tries = tries; c.Pin = "" })
	}
	for _, size := range []int{0, 17, 32, 256 + 1, impl.MaxBytes, impl.MaxBytes + 1} {
		add(func(c *impl.Card) { c.Share.Data = long(size) })
	}
	return append(cards, impl.Card{}, impl.Card{Tries: 3}, impl.Card{Id: 1, Epoch: 1, Tries: 3, Share: share(1, "x")})
}

func TestCardConstants(t *testing.T) {
	same(t, "MaxTries", impl.MaxTries, 3)
}

func TestPinSizes(t *testing.T) {
	for _, digit := range []string{"0", "1", "5", "9"} {
		for n := range 300 {
			same(t, "so many digits", impl.PinRight(strings.Repeat(digit, n)), n >= 4 && n <= 8)
		}
	}
	for _, pin := range rightPins() {
		same(t, pin, impl.PinRight(pin), true)
	}
	for _, pin := range append(noPins(), longPins()...) {
		same(t, pin, impl.PinRight(pin), false)
	}
}

// Each byte at each place, so also the one just below 0 and the one just above 9.
func TestPinByteByByte(t *testing.T) {
	for size := 3; size <= 9; size++ {
		for at := range size {
			for b := range 256 {
				pin := []byte("123456789")[:size]
				pin[at] = byte(b)
				same(t, string(pin), impl.PinRight(string(pin)), size >= 4 && size <= 8 && b >= '0' && b <= '9')
			}
		}
	}
}

// Each rune of more than one byte, also where its low byte is a digit's.
func TestPinRunes(t *testing.T) {
	for r := rune(128); r < 0x3000; r++ {
		same(t, "beside digits", impl.PinRight("12"+string(r)+"3"), false)
		same(t, "alone", impl.PinRight(strings.Repeat(string(r), 2)), false)
	}
	r := dice(71)
	for range 20000 {
		pin := randomText(r, r.Intn(10))
		same(t, pin, impl.PinRight(pin), aPin.MatchString(pin))
	}
}

func TestCardRight(t *testing.T) {
	for _, c := range rightCards() {
		same(t, "right", impl.CardRight(c), true)
	}
	for _, c := range wrongCards() {
		same(t, "not right", impl.CardRight(c), false)
	}
}

// All edges meet.
func TestCardRightEdges(t *testing.T) {
	for _, id := range edgesOf(6) {
		for _, epoch := range edgesOf(1000000) {
			for _, size := range []int{0, 31, 32, 33, 64} {
				for _, tries := range edgesOf(3) {
					for _, s := range edgeShares()[:11] {
						c := impl.Card{Id: id, Epoch: epoch, Pin: long(size), Tries: tries, Share: s}
						if impl.CardRight(c) != isACard(c) {
							t.Errorf("CardRight of %+v: got %v", c, !isACard(c))
						}
					}
				}
			}
		}
	}
}

// What the Pin is made of is nothing that makes a card right or not.
func TestCardRightOfAnyPin(t *testing.T) {
	r := dice(72)
	for range 300 {
		c := impl.Card{Id: 1 + r.Int63n(6), Epoch: r.Int63n(1000001), Pin: randomText(r, 32), Tries: r.Int63n(4),
			Share: share(1+r.Int63n(6), randomText(r, 1+r.Intn(16)))}
		same(t, "right", impl.CardRight(c), true)
	}
}

func TestCardNewKnown(t *testing.T) {
	for _, c := range []struct {
		id   int64
		pin  string
		want string
	}{
		{2, "1234", "c9582d92708323f45bfcfae7069e7c1cdb1aa26c9fe615eec59ef6d3b58d9692"},
		{1, "0000", "4a154b1ef2a9ac2bce4c622fca2964a3e70869d7b21b84ef9fc989b386010848"},
		{6, "99999999", "6b7bbe80f2fedd0ef43cf71090477db0bf2db35d2705812ac8e22601860b11ae"},
	} {
		out := impl.CardNew(c.id, 7, c.pin, share(3, "xy"))
		same(t, "Pin", hexed(out.Card.Pin), c.want)
		out.Card.Pin = ""
		same(t, "all else", out, impl.CardOut{Card: impl.Card{Id: c.id, Epoch: 7, Tries: 3, Share: share(3, "xy")}})
	}
}

// All edges meet: none, one, or more of what is handed in may not be.
func TestCardNewEdges(t *testing.T) {
	pins := append(rightPins()[:3], "123", "123456789", "12a4", strings.Repeat("1", impl.MaxBytes), strings.Repeat("1", impl.MaxBytes+1))
	for _, id := range edgesOf(6) {
		for _, epoch := range edgesOf(1000000) {
			for _, pin := range pins {
				for _, s := range edgeShares() {
					got, want := impl.CardNew(id, epoch, pin, s), newAsked(id, epoch, pin, s)
					if got != want {
						t.Errorf("CardNew of %d, %d, a pin of %d bytes, %+v: got %+v, want %+v", id, epoch, len(pin), s, got, want)
					}
				}
			}
		}
	}
}

func TestCardNewPins(t *testing.T) {
	for id := int64(1); id <= 6; id++ {
		for _, pin := range rightPins() {
			out := impl.CardNew(id, 1, pin, share(id, "xy"))
			same(t, pin, out, newAsked(id, 1, pin, share(id, "xy")))
			same(t, "right", impl.CardRight(out.Card), true)
		}
		for _, pin := range noPins() {
			same(t, pin, impl.CardNew(id, 1, pin, share(id, "xy")), impl.CardOut{Code: impl.ErrForm})
		}
		for _, pin := range longPins() {
			same(t, "too long", impl.CardNew(id, 1, pin, share(id, "xy")), impl.CardOut{Code: impl.ErrSize})
			same(t, "too long, and all else wrong", impl.CardNew(-id, -1, pin, impl.Share{}), impl.CardOut{Code: impl.ErrSize})
		}
	}
}

// Data that is too long is a field's: it is not right, but not refused for its size.
func TestCardNewLongData(t *testing.T) {
	for _, size := range []int{impl.MaxBytes, impl.MaxBytes + 1, 2 * impl.MaxBytes} {
		s := share(1, long(size))
		same(t, "alone", impl.CardNew(1, 1, "1234", s), impl.CardOut{Code: impl.ErrForm})
		same(t, "and a pin that is none", impl.CardNew(1, 1, "123", s), impl.CardOut{Code: impl.ErrForm})
		same(t, "and a pin too long", impl.CardNew(1, 1, long(impl.MaxBytes+1), s), impl.CardOut{Code: impl.ErrSize})
	}
}
