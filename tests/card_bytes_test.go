package tests

import (
	"encoding/binary"
	"hash/crc32"
	"math"
	"strings"
	"testing"

	"loop.example/g00629/impl"
)

func sealAsked(body string) string {
	return string(binary.LittleEndian.AppendUint32([]byte(body), crc32.ChecksumIEEE([]byte(body))))
}

func numAsked(n int64) string {
	return string(binary.AppendVarint(nil, n))
}

// cardParts are the pieces of a card's bytes, whatever it is: each number and each text
// by itself.
func cardParts(c impl.Card) []string {
	return []string{numAsked(c.Id), numAsked(c.Epoch), numAsked(int64(len(c.Pin))), c.Pin, numAsked(c.Tries),
		numAsked(c.Share.Index), numAsked(int64(len(c.Share.Data))), c.Share.Data}
}

func cardBody(c impl.Card) string {
	return strings.Join(cardParts(c), "")
}

// partsReader reads by the library; ok stays false once something is not as it may be.
type partsReader struct {
	left string
	ok   bool
}

func (p *partsReader) number() int64 {
	n, size := binary.Varint([]byte(p.left))
	if size <= 0 || size > 1 && p.left[size-1] == 0 {
		p.ok = false
		return 0
	}
	p.left = p.left[size:]
	return n
}

func (p *partsReader) words() string {
	size := p.number()
	if !p.ok || size < 0 || size > 8000 || size > int64(len(p.left)) {
		p.ok = false
		return ""
	}
	t := p.left[:size]
	p.left = p.left[size:]
	return t
}

func readCardAsked(text string) impl.CardOut {
	n := len(text) - 4
	switch {
	case len(text) > impl.MaxBytes:
		return impl.CardOut{Code: impl.ErrSize}
	case n < 0:
		return impl.CardOut{Code: impl.ErrShort}
	case sealAsked(text[:n]) != text:
		return impl.CardOut{Code: impl.ErrSum}
	}
	p := &partsReader{left: text[:n], ok: true}
	var c impl.Card
	c.Id, c.Epoch, c.Pin, c.Tries = p.number(), p.number(), p.words(), p.number()
	c.Share.Index, c.Share.Data = p.number(), p.words()
	if !p.ok || p.left != "" || !isACard(c) {
		return impl.CardOut{Code: impl.ErrSyntax}
	}
	return impl.CardOut{Card: c}
}

func TestCardBytesKnown(t *testing.T) {
	for _, c := range []struct {
		card impl.Card
		want string
	}{
		{card(2, 1, "1234", 3, share(2, "xy")),
			"040240c9582d92708323f45bfcfae7069e7c1cdb1aa26c9fe615eec59ef6d3b58d969206040478794f8dccae"},
		{card(1, 0, "0000", 0, share(6, "\x00")),
			"0200404a154b1ef2a9ac2bce4c622fca2964a3e70869d7b21b84ef9fc989b386010848000c020070071dbf"},
		{card(6, 1000000, "99999999", 1, share(1, "\x00\x01\x02\x03\x04\x05\x06\x07\x08\x09\x0a\x0b\x0c\x0d\x0e\x0f")),
			"0c80897a406b7bbe80f2fedd0ef43cf71090477db0bf2db35d2705812ac8e22601860b11ae020220000102030405060708090a0b0c0d0e0fc3c24dc5"},
	} {
		same(t, "CardBytes", hexed(impl.CardBytes(c.card)), c.want)
		sameCardOut(t, "CardRead", impl.CardRead(impl.CardBytes(c.card)), impl.CardOut{Card: c.card})
	}
}

// Promise 9: a card comes back from its bytes; of one that is not right there are none,
// and what would be its bytes is no card.
func TestCardComesBack(t *testing.T) {
	for _, c := range rightCards() {
		text := impl.CardBytes(c)
		same(t, "bytes", text, sealAsked(cardBody(c)))
		sameCardOut(t, "back", impl.CardRead(text), impl.CardOut{Card: c})
	}
	for _, c := range wrongCards() {
		same(t, "not right", impl.CardBytes(c), "")
		text := sealAsked(cardBody(c))
		want := impl.CardOut{Code: impl.ErrSyntax}
		if len(text) > impl.MaxBytes {
			want.Code = impl.ErrSize
		}
		sameCardOut(t, "sealed, but not right", impl.CardRead(text), want)
	}
}

func TestAnyCardComesBack(t *testing.T) {
	r := dice(74)
	for range 5000 {
		c := impl.Card{Id: 1 + r.Int63n(6), Epoch: r.Int63n(1000001), Pin: randomText(r, 32), Tries: r.Int63n(4),
			Share: share(1+r.Int63n(6), randomText(r, 1+r.Intn(16)))}
		text := impl.CardBytes(c)
		same(t, "bytes", text, sealAsked(cardBody(c)))
		sameCardOut(t, "back", impl.CardRead(text), impl.CardOut{Card: c})
	}
}

// bytesCards are few, of short and of long bytes.
func bytesCards() []impl.Card {
	return []impl.Card{card(2, 1, "1234", 3, share(2, "xy")), card(1, 0, "0000", 0, share(6, "\x00")),
		card(6, 1000000, "99999999", 2, share(1, long(16))), card(3, 64, "4444", 1, share(3, "\x80\x80"))}
}

// Cut short at every place: four bytes and more are no seal.
func TestCardReadCut(t *testing.T) {
	for _, c := range bytesCards() {
		text, body := impl.CardBytes(c), cardBody(c)
		for n := range len(text) {
			want := impl.CardOut{Code: impl.ErrSum}
			if n < 4 {
				want.Code = impl.ErrShort
			}
			sameCardOut(t, "cut at its end", impl.CardRead(text[:n]), want)
			sameCardOut(t, "cut ahead", impl.CardRead(text[len(text)-n:]), want)
		}
		for n := range len(body) {
			sameCardOut(t, "cut and sealed", impl.CardRead(sealAsked(body[:n])), impl.CardOut{Code: impl.ErrSyntax})
			sameCardOut(t, "cut ahead and sealed", impl.CardRead(sealAsked(body[n+1:])), readCardAsked(sealAsked(body[n+1:])))
		}
	}
}

func TestCardReadMore(t *testing.T) {
	for _, c := range bytesCards() {
		text, body := impl.CardBytes(c), cardBody(c)
		for _, more := range []string{"\x00", "x", "\x80", "\xff", text, body, long(100)} {
			sameCardOut(t, "behind", impl.CardRead(text+more), impl.CardOut{Code: impl.ErrSum})
			sameCardOut(t, "behind, sealed", impl.CardRead(sealAsked(body+more)), impl.CardOut{Code: impl.ErrSyntax})
			sameCardOut(t, "ahead", impl.CardRead(more+text), readCardAsked(more+text))
			sameCardOut(t, "ahead, sealed", impl.CardRead(sealAsked(more+body)), readCardAsked(sealAsked(more+body)))
		}
		sameCardOut(t, "sealed twice", impl.CardRead(sealAsked(text)), impl.CardOut{Code: impl.ErrSyntax})
		sameCardOut(t, "not sealed", impl.CardRead(body), impl.CardOut{Code: impl.ErrSum})
	}
}

// One byte turned, whichever and however: no seal. Sealed then, it is another card, or none.
func TestCardReadTurned(t *testing.T) {
	for _, c := range bytesCards() {
		text, body := impl.CardBytes(c), cardBody(c)
		for by := 1; by < 256; by++ {
			for at := range len(text) {
				sameCardOut(t, "turned", impl.CardRead(turned(text, at, byte(by))), impl.CardOut{Code: impl.ErrSum})
			}
			for at := range len(body) {
				other := sealAsked(turned(body, at, byte(by)))
				out := impl.CardRead(other)
				sameCardOut(t, "turned and sealed", out, readCardAsked(other))
				if out.Code == impl.OK {
					same(t, "one writing", impl.CardBytes(out.Card), other)
				}
			}
		}
	}
}

// longWritings are of the number that one is the writing of, each in more bytes than are
// needed, or in bytes that are no number.
func longWritings(one string) []string {
	last := len(one) - 1
	var all []string
	for n := range 11 {
		all = append(all, one[:last]+string([]byte{one[last] | 128})+strings.Repeat("\x80", n)+"\x00")
	}
	return append(all, strings.Repeat("\x80", 9)+"\x01", strings.Repeat("\xff", 9)+"\x01", strings.Repeat("\xff", 9)+"\x02",
		strings.Repeat("\xff", 10)+"\x00", one[:last]+string([]byte{one[last] | 128}))
}

// Each of the six numbers, written otherwise.
func TestCardReadNumbers(t *testing.T) {
	for _, c := range bytesCards() {
		for _, at := range []int{0, 1, 2, 4, 5, 6} {
			parts := cardParts(c)
			for _, other := range longWritings(parts[at]) {
				parts[at] = other
				text := sealAsked(strings.Join(parts, ""))
				sameCardOut(t, "asked", readCardAsked(text), impl.CardOut{Code: impl.ErrSyntax})
				sameCardOut(t, "written otherwise", impl.CardRead(text), impl.CardOut{Code: impl.ErrSyntax})
			}
			for _, n := range []int64{math.MinInt64, -8001, -33, -32, -4, -3, -1, 0, 1, 2, 3, 4, 6, 7, 15, 16, 17, 31, 32, 33,
				63, 64, 8000, 8001, 1000000, 1000001, 1 << 32, 1<<32 + 2, 1 << 62, math.MaxInt64} {
				parts[at] = numAsked(n)
				text := sealAsked(strings.Join(parts, ""))
				sameCardOut(t, "another number", impl.CardRead(text), readCardAsked(text))
			}
		}
	}
}

// Of two faults the seal's is named first, and a size ahead of both.
func TestCardReadFaultOrder(t *testing.T) {
	body := cardBody(card(2, 1, "1234", 3, share(2, "xy")))
	wrong := cardBody(card(7, 1, "1234", 3, share(2, "xy")))
	room := impl.MaxBytes - 4
	for _, x := range []struct {
		what string
		text string
		code int64
	}{
		{"nothing", "", impl.ErrShort},
		{"three bytes", "\x00\x00\x00", impl.ErrShort},
		{"nothing, sealed", sealAsked(""), impl.ErrSyntax},
		{"no seal", "\x00\x00\x00\x01", impl.ErrSum},
		{"no seal of no card", turned(sealAsked(wrong), 5, 1), impl.ErrSum},
		{"a seal of no card", sealAsked(wrong), impl.ErrSyntax},
		{"full, no seal", long(impl.MaxBytes), impl.ErrSum},
		{"full, a seal of noughts", sealAsked(strings.Repeat("\x00", room)), impl.ErrSyntax},
		{"full, a seal of a card and more", sealAsked(body + strings.Repeat("\x00", room-len(body))), impl.ErrSyntax},
		{"one byte less", sealAsked(body + strings.Repeat("\x00", room-len(body)-1)), impl.ErrSyntax},
		{"too long, a seal of a card and more", sealAsked(body + strings.Repeat("\x00", room-len(body)+1)), impl.ErrSize},
		{"too long, no seal", long(impl.MaxBytes + 1), impl.ErrSize},
		{"far too long", long(3 * impl.MaxBytes), impl.ErrSize},
	} {
		sameCardOut(t, x.what, impl.CardRead(x.text), impl.CardOut{Code: x.code})
	}
}

// Cards whose bytes were cut, put in, and turned at random, and sealed again.
func TestCardReadOfAnyBytes(t *testing.T) {
	r := dice(75)
	cards := rightCards()
	for range 20000 {
		body := cardBody(cards[r.Intn(len(cards))])
		for range 1 + r.Intn(3) {
			at := r.Intn(len(body) + 1)
			switch r.Intn(3) {
			case 0:
				body = body[:at] + randomText(r, 1) + body[at:]
			case 1:
				body = body[:at] + body[min(at+1, len(body)):]
			default:
				body = body[:at] + randomText(r, 1) + body[min(at+1, len(body)):]
			}
		}
		sameCardOut(t, "sealed", impl.CardRead(sealAsked(body)), readCardAsked(sealAsked(body)))
		sameCardOut(t, "not sealed", impl.CardRead(body), readCardAsked(body))
	}
}
