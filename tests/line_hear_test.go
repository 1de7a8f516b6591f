package tests

import (
	"math"
	"strings"
	"testing"

	"loop.example/g00629/impl"
)

// hearAsked is read by the library.
func hearAsked(c impl.Channel, text string) impl.ChannelOut {
	n := len(text) - 32
	switch {
	case len(text) > impl.MaxBytes:
		return impl.ChannelOut{Code: impl.ErrSize}
	case !isAChannel(c):
		return impl.ChannelOut{Code: impl.ErrForm}
	case n < 2:
		return impl.ChannelOut{Code: impl.ErrShort}
	case libraryMac(c.Key, text[:n]) != text[n:]:
		return impl.ChannelOut{Code: impl.ErrSum}
	}
	p := &partsReader{left: text[:n], ok: true}
	number, said := p.number(), p.words()
	switch {
	case !p.ok || p.left != "" || !isWithin(1, number, 1000000) || len(said) > 200:
		return impl.ChannelOut{Code: impl.ErrSyntax}
	case number <= c.Seen:
		return impl.ChannelOut{Code: impl.ErrRange}
	}
	c.Seen = number
	return impl.ChannelOut{Channel: c, Text: said}
}

// Every Channel, right or not, hears of each number every text.
func TestHearEdges(t *testing.T) {
	texts := append(saidTexts(), unsaidTexts()...)
	for _, c := range append(rightChannels(), wrongChannels()...) {
		for _, n := range append(lineTimes(), c.Seen-1, c.Seen, c.Seen+1) {
			for _, text := range texts {
				if len(text) > 201 && n != 1 {
					continue
				}
				over := saidAsked(c.Key, n, text)
				sameChannelOut(t, "ChannelHear", impl.ChannelHear(c, over), hearAsked(c, over))
			}
		}
	}
}

// Each number by each Seen: it must be from 1 to MaxTime, and above Seen.
func TestHearNumbers(t *testing.T) {
	for _, seen := range []int64{0, 1, 2, 63, 64, 999998, 999999, 1000000} {
		c := channel(3, seen)
		for _, n := range append(lineTimes(), seen-1, seen, seen+1, seen+2) {
			want := impl.ChannelOut{Channel: channel(3, n), Text: "hello"}
			if n <= seen {
				want = impl.ChannelOut{Code: impl.ErrRange}
			}
			if n < 1 || n > 1000000 {
				want = impl.ChannelOut{Code: impl.ErrSyntax}
			}
			sameChannelOut(t, "a number", impl.ChannelHear(c, saidAsked(c.Key, n, "hello")), want)
		}
	}
}

func TestHearSizes(t *testing.T) {
	c := channel(0, 4)
	for n := range 600 {
		want := impl.ChannelOut{Channel: channel(0, 5), Text: long(n)}
		if n > 200 {
			want = impl.ChannelOut{Code: impl.ErrSyntax}
		}
		sameChannelOut(t, "so many bytes", impl.ChannelHear(c, saidAsked(c.Key, 5, long(n))), want)
	}
}

// heardBodies are few, of short and of long bytes.
func heardBodies() []string {
	return []string{numAsked(1) + textAsked(""), numAsked(2) + textAsked("hello"), numAsked(1000000) + textAsked("\x80\x80"),
		numAsked(64) + textAsked(long(64))}
}

// Cut short at every place, also to 33 and to 34 bytes; with the Mac of what is left, too.
func TestHearCut(t *testing.T) {
	c := channel(0, 0)
	for _, body := range append(heardBodies(), numAsked(9)+textAsked(long(200))) {
		over := overLine(c.Key, body)
		for n := range len(over) {
			want := impl.ChannelOut{Code: impl.ErrSum}
			if n < 34 {
				want.Code = impl.ErrShort
			}
			sameChannelOut(t, "cut at its end", impl.ChannelHear(c, over[:n]), want)
			sameChannelOut(t, "cut ahead", impl.ChannelHear(c, over[len(over)-n:]), want)
		}
		for n := range len(body) {
			want := impl.ChannelOut{Code: impl.ErrSyntax}
			if n < 2 {
				want.Code = impl.ErrShort
			}
			sameChannelOut(t, "cut, its Mac right", impl.ChannelHear(c, overLine(c.Key, body[:n])), want)
			rest := overLine(c.Key, body[n+1:])
			sameChannelOut(t, "cut ahead, its Mac right", impl.ChannelHear(c, rest), hearAsked(c, rest))
		}
	}
}

// The Mac alone, or with one byte ahead of it, is right, but too short.
func TestHearShort(t *testing.T) {
	c := channel(0, 0)
	for _, wrong := range []bool{false, true} {
		for _, body := range []string{"", "\x00", "\x02", "\x80", "\xff"} {
			over := overLine(c.Key, body)
			if wrong {
				over = turned(over, len(over)-1, 1)
			}
			sameChannelOut(t, "too short", impl.ChannelHear(c, over), impl.ChannelOut{Code: impl.ErrShort})
		}
	}
	over := overLine(c.Key, "\x02\x00")
	same(t, "just enough", len(over), 34)
	sameChannelOut(t, "just enough", impl.ChannelHear(c, over), impl.ChannelOut{Channel: channel(0, 1)})
	sameChannelOut(t, "just enough, no Mac", impl.ChannelHear(c, turned(over, 33, 1)), impl.ChannelOut{Code: impl.ErrSum})
}

// With bytes behind it, ahead of it, or between the text and the Mac.
func TestHearMore(t *testing.T) {
	c := channel(0, 0)
	for _, body := range heardBodies() {
		over := overLine(c.Key, body)
		for _, more := range []string{"\x00", "x", "\x80", "\xff", over, body, long(32), long(100)} {
			sameChannelOut(t, "behind", impl.ChannelHear(c, over+more), hearAsked(c, over+more))
			sameChannelOut(t, "ahead", impl.ChannelHear(c, more+over), impl.ChannelOut{Code: impl.ErrSum})
			between := body + more + over[len(body):]
			sameChannelOut(t, "between", impl.ChannelHear(c, between), impl.ChannelOut{Code: impl.ErrSum})
			sameChannelOut(t, "between, its Mac right", impl.ChannelHear(c, overLine(c.Key, body+more)), impl.ChannelOut{Code: impl.ErrSyntax})
			other := overLine(c.Key, more+body)
			sameChannelOut(t, "ahead, its Mac right", impl.ChannelHear(c, other), hearAsked(c, other))
		}
		same(t, "behind", impl.ChannelHear(c, over+"x").Code, int64(impl.ErrSum))
		sameChannelOut(t, "its Mac twice", impl.ChannelHear(c, overLine(c.Key, over)), impl.ChannelOut{Code: impl.ErrSyntax})
		sameChannelOut(t, "another's Mac", impl.ChannelHear(c, overLine("other", body)), impl.ChannelOut{Code: impl.ErrSum})
		sameChannelOut(t, "its digest for a Mac", impl.ChannelHear(c, body+libraryDigest(body)), impl.ChannelOut{Code: impl.ErrSum})
		sameChannelOut(t, "the Mac of the Mac", impl.ChannelHear(c, body+libraryMac(c.Key, over[len(body):])), impl.ChannelOut{Code: impl.ErrSum})
	}
}

// One byte turned, whichever and however; with a right Mac then, it is something else, or nothing.
func TestHearTurned(t *testing.T) {
	c := channel(0, 1)
	for _, body := range heardBodies() {
		over := overLine(c.Key, body)
		for by := 1; by < 256; by++ {
			for at := range len(over) {
				sameChannelOut(t, "turned", impl.ChannelHear(c, turned(over, at, byte(by))), impl.ChannelOut{Code: impl.ErrSum})
			}
			for at := range len(body) {
				other := overLine(c.Key, turned(body, at, byte(by)))
				out := impl.ChannelHear(c, other)
				sameChannelOut(t, "turned, its Mac right", out, hearAsked(c, other))
				if out.Code == impl.OK {
					same(t, "one writing", impl.ChannelSay(channel(out.Channel.Seen-1, 0), out.Text).Text, other)
				}
			}
		}
		for at := range 32 {
			key := channel(0, 1)
			key.Key = turned(key.Key, at, 1)
			sameChannelOut(t, "the Key turned", impl.ChannelHear(key, over), impl.ChannelOut{Code: impl.ErrSum})
		}
	}
}

// Both numbers in more bytes than are needed, in none that are one, and others, each with a right Mac.
func TestHearWritings(t *testing.T) {
	c := channel(2, 3)
	for _, text := range []string{"", "hello", long(64), long(200)} {
		for _, n := range []int64{4, 64, 1000000} {
			for _, other := range longWritings(numAsked(n)) {
				over := overLine(c.Key, other+textAsked(text))
				sameChannelOut(t, "its number", impl.ChannelHear(c, over), impl.ChannelOut{Code: impl.ErrSyntax})
			}
			for _, other := range longWritings(numAsked(int64(len(text)))) {
				over := overLine(c.Key, numAsked(n)+other+text)
				sameChannelOut(t, "its length", impl.ChannelHear(c, over), impl.ChannelOut{Code: impl.ErrSyntax})
			}
			for _, size := range []int64{math.MinInt64, -8001, -200, -5, -1, 0, 1, 4, 5, 6, 63, 64, 65, 199, 200, 201, 7966, 8000, 8001,
				1 << 32, 1<<32 + 5, math.MaxInt64} {
				over := overLine(c.Key, numAsked(n)+numAsked(size)+text)
				want := impl.ChannelOut{Code: impl.ErrSyntax}
				if size == int64(len(text)) {
					want = impl.ChannelOut{Channel: channel(2, n), Text: text}
				}
				sameChannelOut(t, "another length", impl.ChannelHear(c, over), want)
			}
		}
	}
}

// Which fault is named where two are there at once, and what is handed back beside it.
func TestHearCodes(t *testing.T) {
	c, wrong := channel(5, 6), channel(5, -1)
	old, next := saidAsked(c.Key, 6, "x"), saidAsked(c.Key, 7, "x")
	room := impl.MaxBytes - 32
	for _, x := range []struct {
		what string
		c    impl.Channel
		text string
		want impl.ChannelOut
	}{
		{"right", c, next, impl.ChannelOut{Channel: channel(5, 7), Text: "x"}},
		{"heard already", c, old, impl.ChannelOut{Code: impl.ErrRange}},
		{"heard already, too much is said", c, saidAsked(c.Key, 6, long(201)), impl.ChannelOut{Code: impl.ErrSyntax}},
		{"heard already, bytes between", c, overLine(c.Key, numAsked(6)+textAsked("x")+"\x00"), impl.ChannelOut{Code: impl.ErrSyntax}},
		{"heard already, no Mac", c, turned(old, len(old)-1, 1), impl.ChannelOut{Code: impl.ErrSum}},
		{"a number 0 is no number, though it is below Seen", c, saidAsked(c.Key, 0, "x"), impl.ChannelOut{Code: impl.ErrSyntax}},
		{"no number, and no Mac", c, "\xff" + next[1:], impl.ChannelOut{Code: impl.ErrSum}},
		{"nothing", c, "", impl.ChannelOut{Code: impl.ErrShort}},
		{"33 bytes", c, long(33), impl.ChannelOut{Code: impl.ErrShort}},
		{"34 bytes", c, long(34), impl.ChannelOut{Code: impl.ErrSum}},
		{"no Channel", wrong, next, impl.ChannelOut{Code: impl.ErrForm}},
		{"no Channel, and nothing", impl.Channel{}, "", impl.ChannelOut{Code: impl.ErrForm}},
		{"no Channel, for its Sent", channel(1000001, 6), next, impl.ChannelOut{Code: impl.ErrForm}},
		{"no Channel, and no Mac", wrong, long(40), impl.ChannelOut{Code: impl.ErrForm}},
		{"no Sent is left, but it hears", channel(1000000, 6), next, impl.ChannelOut{Channel: channel(1000000, 7), Text: "x"}},
		{"full, its Mac right", c, overLine(c.Key, long(room)), impl.ChannelOut{Code: impl.ErrSyntax}},
		{"full, all of it said", c, saidAsked(c.Key, 7, long(room-3)), impl.ChannelOut{Code: impl.ErrSyntax}},
		{"full, no Mac", c, long(impl.MaxBytes), impl.ChannelOut{Code: impl.ErrSum}},
		{"too long, its Mac right", c, overLine(c.Key, long(room+1)), impl.ChannelOut{Code: impl.ErrSize}},
		{"too long, no Mac", c, long(impl.MaxBytes + 1), impl.ChannelOut{Code: impl.ErrSize}},
		{"too long, no Channel", wrong, long(impl.MaxBytes + 1), impl.ChannelOut{Code: impl.ErrSize}},
		{"far too long", impl.Channel{Key: long(3 * impl.MaxBytes)}, long(3 * impl.MaxBytes), impl.ChannelOut{Code: impl.ErrSize}},
	} {
		sameChannelOut(t, x.what, impl.ChannelHear(x.c, x.text), x.want)
	}
}

// Bodies that were cut, put in, and turned at random, with a right Mac and without.
func TestHearAnyBytes(t *testing.T) {
	r := dice(81)
	for range 20000 {
		c := channel(r.Int63n(1000001), r.Int63n(3))
		body := numAsked(1+r.Int63n(4)) + textAsked(randomText(r, r.Intn(12)))
		for range r.Intn(4) {
			at := r.Intn(len(body) + 1)
			switch r.Intn(3) {
			case 0:
				body = body[:at] + randomText(r, 1) + body[at:]
			case 1:
				body = body[:at] + body[min(at+1, len(body)):]
			default:
				body = body[:at] + randomText(r, 1) + body[min(at+1, len(body)):]
			}
		}
		over := overLine(c.Key, body)
		sameChannelOut(t, "its Mac right", impl.ChannelHear(c, over), hearAsked(c, over))
		sameChannelOut(t, "without", impl.ChannelHear(c, body), hearAsked(c, body))
	}
	for range 3000 {
		text := randomText(r, r.Intn(80))
		sameChannelOut(t, "any bytes", impl.ChannelHear(channel(0, 0), text), hearAsked(channel(0, 0), text))
	}
}

// Promise 10: what is said by the one is heard by the other one, once.
func TestSaidIsHeardOnce(t *testing.T) {
	for _, secret := range lineTexts() {
		for _, theirs := range []string{"card", "boxes", "A", long(32)} {
			one := impl.ChannelNew(secret, "box", theirs).Channel
			other := impl.ChannelNew(secret, theirs, "box").Channel
			for _, text := range saidTexts() {
				said := impl.ChannelSay(one, text)
				same(t, "said", said.Code, int64(impl.OK))
				heard := impl.ChannelHear(other, said.Text)
				want := impl.Channel{Key: other.Key, Sent: other.Sent, Seen: said.Channel.Sent}
				sameChannelOut(t, "heard", heard, impl.ChannelOut{Channel: want, Text: text})
				for range 3 {
					sameChannelOut(t, "a second time", impl.ChannelHear(heard.Channel, said.Text), impl.ChannelOut{Code: impl.ErrRange})
				}
				one, other = said.Channel, heard.Channel
			}
			same(t, "Sent", one.Sent, other.Seen)
		}
	}
}

// Promise 10: up to the last number that there is.
func TestSaidIsHeardToTheLast(t *testing.T) {
	one, other := channel(999997, 0), channel(0, 999997)
	for range 3 {
		said := impl.ChannelSay(one, "x")
		heard := impl.ChannelHear(other, said.Text)
		same(t, "heard", heard.Text, "x")
		one, other = said.Channel, heard.Channel
		sameChannelOut(t, "a second time", impl.ChannelHear(other, said.Text), impl.ChannelOut{Code: impl.ErrRange})
	}
	same(t, "both", [2]impl.Channel{one, other}, [2]impl.Channel{channel(1000000, 0), channel(0, 1000000)})
	sameChannelOut(t, "no more is said", impl.ChannelSay(one, "x"), impl.ChannelOut{Code: impl.ErrFull})
	back := impl.ChannelSay(other, "back")
	same(t, "but back", impl.ChannelHear(one, back.Text).Text, "back")
}

// Promise 10: in whatever order it comes, and however often: what was said ahead of what
// was heard is heard no more, what was lost keeps nothing else from being heard.
func TestHeardInAnyOrder(t *testing.T) {
	r := dice(82)
	for range 300 {
		one := impl.ChannelNew("secret", "box", "card").Channel
		other := impl.ChannelNew("secret", "card", "box").Channel
		var texts, overs []string
		for range 8 {
			text := randomText(r, r.Intn(20))
			said := impl.ChannelSay(one, text)
			one, texts, overs = said.Channel, append(texts, text), append(overs, said.Text)
		}
		last := -1
		for range 20 {
			at := r.Intn(8)
			out := impl.ChannelHear(other, overs[at])
			if at <= last {
				sameChannelOut(t, "no more", out, impl.ChannelOut{Code: impl.ErrRange})
				continue
			}
			last = at
			other.Seen = int64(at + 1)
			sameChannelOut(t, "heard", out, impl.ChannelOut{Channel: other, Text: texts[at]})
		}
	}
}

// Promise 10: who has another secret hears it just where both make one mac of it.
func TestHeardByOneSecret(t *testing.T) {
	secrets := append(lineTexts(), "secret", "secret\x00", "secret\x00\x00", "secres", "Secret", "secret\x01", "\x00secret",
		"secret"+strings.Repeat("\x00", 26), "a\x00\x00", strings.Repeat("\x00", 32))
	alike := 0
	for _, secret := range secrets {
		said := impl.ChannelSay(impl.ChannelNew(secret, "box", "card").Channel, "hello")
		for _, other := range secrets {
			c := impl.ChannelNew(other, "card", "box").Channel
			// A mac fills its key up with bytes 0.
			one := strings.TrimRight(secret, "\x00") == strings.TrimRight(other, "\x00")
			same(t, "one mac of it", keyAsked(other, "box", "card") == keyAsked(secret, "box", "card"), one)
			want := impl.ChannelOut{Code: impl.ErrSum}
			if one {
				want = impl.ChannelOut{Channel: impl.Channel{Key: c.Key, Seen: 1}, Text: "hello"}
			}
			if one && secret != other {
				alike++
			}
			sameChannelOut(t, "by another secret", impl.ChannelHear(c, said.Text), want)
		}
	}
	same(t, "some are not the same, but alike", alike > 10, true)
}

// Nor does who is called otherwise, or somebody else who knows the secret.
func TestHeardByNoOtherNames(t *testing.T) {
	said := impl.ChannelSay(impl.ChannelNew("secret", "box", "card").Channel, "hello").Text
	for _, ours := range []string{"box", "card", "car", "card1", "cardbox", "boxcard", "bo", "xcard", "Box", "desk", "\x06box\x08card"} {
		for _, theirs := range []string{"box", "card", "bo", "box1", "xcard", "Card", "desk"} {
			c := impl.ChannelNew("secret", ours, theirs)
			if c.Code != impl.OK {
				same(t, "alike", ours, theirs)
				continue
			}
			theSame := ours == "box" && theirs == "card" || ours == "card" && theirs == "box"
			same(t, ours+" and "+theirs, impl.ChannelHear(c.Channel, said).Text == "hello", theSame)
		}
	}
}

// Over many calls, both ways at once, with some lost, some twice, and some turned.
func TestLineGoesOn(t *testing.T) {
	r := dice(83)
	for range 200 {
		ends := [2]impl.Channel{impl.ChannelNew("s", "a", "b").Channel, impl.ChannelNew("s", "b", "a").Channel}
		key := ends[0].Key
		var sent, seen [2]int64
		for range 40 {
			from := r.Intn(2)
			text := randomText(r, r.Intn(8))
			out := impl.ChannelSay(ends[from], text)
			sent[from]++
			sameChannelOut(t, "said", out, impl.ChannelOut{Channel: impl.Channel{Key: key, Sent: sent[from], Seen: seen[from]},
				Text: saidAsked(key, sent[from], text)})
			ends[from] = out.Channel
			to, over := 1-from, out.Text
			switch r.Intn(4) {
			case 0:
				continue
			case 1:
				bad := turned(over, r.Intn(len(over)), byte(1+r.Intn(255)))
				sameChannelOut(t, "turned", impl.ChannelHear(ends[to], bad), impl.ChannelOut{Code: impl.ErrSum})
			}
			heard := impl.ChannelHear(ends[to], over)
			seen[to] = sent[from]
			sameChannelOut(t, "heard", heard, impl.ChannelOut{Channel: impl.Channel{Key: key, Sent: sent[to], Seen: seen[to]}, Text: text})
			ends[to] = heard.Channel
			sameChannelOut(t, "twice", impl.ChannelHear(ends[to], over), impl.ChannelOut{Code: impl.ErrRange})
		}
	}
}
