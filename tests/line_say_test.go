package tests

import (
	"runtime"
	"strings"
	"sync"
	"testing"

	"loop.example/g00629/impl"
)

// overLine are the bytes of a body that go over the line, by the library.
func overLine(key, body string) string {
	return body + libraryMac(key, body)
}

func saidAsked(key string, number int64, text string) string {
	return overLine(key, numAsked(number)+textAsked(text))
}

func sayAsked(c impl.Channel, text string) impl.ChannelOut {
	switch {
	case len(text) > impl.MaxBytes:
		return impl.ChannelOut{Code: impl.ErrSize}
	case !isAChannel(c) || len(text) > 200:
		return impl.ChannelOut{Code: impl.ErrForm}
	case c.Sent == 1000000:
		return impl.ChannelOut{Code: impl.ErrFull}
	}
	c.Sent++
	return impl.ChannelOut{Channel: c, Text: saidAsked(c.Key, c.Sent, text)}
}

// saidTexts may be said: the empty one, full ones, and such as are like numbers or lengths.
func saidTexts() []string {
	return []string{"", "x", "hello", "\x00", "\x80", "\xff\xff", "ä", "a\nb", long(32), long(63), long(64), long(199), long(200),
		strings.Repeat("\x80", 200), strings.Repeat("\x00", 200)}
}

// unsaidTexts are too long, the last ones also for being handed in.
func unsaidTexts() []string {
	return []string{long(201), strings.Repeat("x", 202), long(256), long(256 + 1), long(impl.MaxBytes - 1), long(impl.MaxBytes),
		long(impl.MaxBytes + 1), strings.Repeat("x", 2*impl.MaxBytes)}
}

func TestSayKnown(t *testing.T) {
	c := impl.ChannelNew("secret", "box", "card").Channel
	for _, x := range []struct {
		sent int64
		text string
		want string
	}{
		{0, "hello", "020a68656c6c6f9ee4b4aecc0059e973ec9605cc3ceac731bcb42913f5cd15e9008f54b690d828"},
		{1, "", "04000140464855933a2dc20b1460e2a5cc00bc7b4ddf0c603c94b05688d3d494e26a"},
		{63, "again", "80010a616761696ee27493a10662da32c2d47e39038c0e98ae51bfeb988ce7cf52105ab0f147f82f"},
		{999999, "\x00", "80897a0200329f6cd73ee52698d52faf5df9ef50bf60acac815597d2cfae46ebcf9e7b132c"},
	} {
		c.Sent, c.Seen = x.sent, 17
		out := impl.ChannelSay(c, x.text)
		same(t, "Text", hexed(out.Text), x.want)
		same(t, "Channel", out.Channel, impl.Channel{Key: c.Key, Sent: x.sent + 1, Seen: 17})
		same(t, "Code", out.Code, int64(impl.OK))
	}
}

// Every Channel, right or not, and every text.
func TestSayEdges(t *testing.T) {
	texts := append(saidTexts(), unsaidTexts()...)
	for _, c := range append(rightChannels(), wrongChannels()...) {
		for _, text := range texts {
			out := impl.ChannelSay(c, text)
			sameChannelOut(t, "ChannelSay", out, sayAsked(c, text))
			same(t, "right", impl.ChannelRight(out.Channel), out.Code == impl.OK)
		}
	}
}

func TestSaySizes(t *testing.T) {
	c := channel(5, 9)
	for n := range 600 {
		out := impl.ChannelSay(c, long(n))
		sameChannelOut(t, "so many bytes", out, sayAsked(c, long(n)))
		same(t, "may be said", out.Code == impl.OK, n <= 200)
	}
}

// What is handed back beside each code, one by one, and which fault is named of two.
func TestSayCodes(t *testing.T) {
	full, wrong := channel(1000000, 3), channel(1000001, 3)
	tooLong := long(impl.MaxBytes + 1)
	for _, x := range []struct {
		what string
		c    impl.Channel
		text string
		want impl.ChannelOut
	}{
		{"the last one", channel(999999, 3), "x", impl.ChannelOut{Channel: full, Text: saidAsked(full.Key, 1000000, "x")}},
		{"none is left", full, "x", impl.ChannelOut{Code: impl.ErrFull}},
		{"none is left, and nothing is said", full, "", impl.ChannelOut{Code: impl.ErrFull}},
		{"none is left, and too much is said", full, long(201), impl.ChannelOut{Code: impl.ErrForm}},
		{"too much is said", channel(0, 0), long(201), impl.ChannelOut{Code: impl.ErrForm}},
		{"no Channel", impl.Channel{}, "x", impl.ChannelOut{Code: impl.ErrForm}},
		{"no Channel, of a Sent too great", wrong, "x", impl.ChannelOut{Code: impl.ErrForm}},
		{"no Channel, for its Seen, and none is left", channel(1000000, -1), "x", impl.ChannelOut{Code: impl.ErrForm}},
		{"no Channel, for its Key, and none is left", impl.Channel{Key: long(31), Sent: 1000000}, "x", impl.ChannelOut{Code: impl.ErrForm}},
		{"a Key far too long", impl.Channel{Key: tooLong}, "x", impl.ChannelOut{Code: impl.ErrForm}},
		{"far too much is said", channel(0, 0), tooLong, impl.ChannelOut{Code: impl.ErrSize}},
		{"far too much, and none is left", full, tooLong, impl.ChannelOut{Code: impl.ErrSize}},
		{"far too much, and no Channel", wrong, tooLong, impl.ChannelOut{Code: impl.ErrSize}},
		{"all of it", impl.Channel{Key: tooLong, Sent: -1, Seen: -1}, tooLong, impl.ChannelOut{Code: impl.ErrSize}},
	} {
		sameChannelOut(t, x.what, impl.ChannelSay(x.c, x.text), x.want)
	}
}

// What is told is in memory of its own, and what was handed in stays as it is.
func TestLineMemory(t *testing.T) {
	secret, ours, text := strings.Clone("secret"), strings.Clone("box"), strings.Clone("hello")
	made := impl.ChannelNew(secret, ours, "card").Channel
	c := impl.Channel{Key: strings.Clone(made.Key), Sent: 4, Seen: 5}
	over := saidAsked(c.Key, 6, text)
	was := strings.Clone(over)
	for what, out := range map[string]impl.ChannelOut{
		"said":           impl.ChannelSay(c, text),
		"heard":          impl.ChannelHear(c, over),
		"not said":       impl.ChannelSay(c, long(201)),
		"heard already":  impl.ChannelHear(channel(4, 6), over),
		"another's":      impl.ChannelHear(c, saidAsked("other", 6, text)),
		"of its own Key": impl.ChannelSay(c, c.Key),
	} {
		same(t, what+": the Key", sharesMemory(out.Channel.Key, c.Key), false)
		same(t, what+": the Text", sharesMemory(out.Text, text) || sharesMemory(out.Text, over), false)
		same(t, what+": both", sharesMemory(out.Text, out.Channel.Key), false)
		same(t, what+": the Channel", c, impl.Channel{Key: made.Key, Sent: 4, Seen: 5})
	}
	heard := impl.ChannelHear(c, over).Text
	at := strings.Index(over, "hello")
	same(t, "a piece of what came", sharesMemory(heard, over[at:]), false)
	same(t, "what came", over, was)
	same(t, "the texts", secret+ours+text, "secretboxhello")
}

// The same calls answer the same, one after the other and many at once.
func TestLineAnswersTheSame(t *testing.T) {
	c, d := channel(7, 9), channel(0, 7)
	said := impl.ChannelSay(c, "hello")
	heard := impl.ChannelHear(d, said.Text)
	sameChannelOut(t, "said", said, sayAsked(c, "hello"))
	sameChannelOut(t, "heard", heard, impl.ChannelOut{Channel: channel(0, 8), Text: "hello"})
	var all sync.WaitGroup
	for range 16 {
		all.Go(func() {
			for range 100 {
				sameChannelOut(t, "said again", impl.ChannelSay(c, "hello"), said)
				sameChannelOut(t, "heard again", impl.ChannelHear(d, said.Text), heard)
				sameChannelOut(t, "new again", impl.ChannelNew("secret", "card", "box"), impl.ChannelOut{Channel: channel(0, 0)})
				sameChannelOut(t, "refused again", impl.ChannelHear(heard.Channel, said.Text), impl.ChannelOut{Code: impl.ErrRange})
			}
		})
	}
	all.Wait()
}

// Nobody stays at the other end of a line, whatever was said over it.
func TestLineIsLeft(t *testing.T) {
	ahead := runtime.NumGoroutine()
	for n := range 300 {
		said := impl.ChannelSay(channel(int64(n), 0), long(n))
		impl.ChannelHear(channel(0, 0), said.Text)
		impl.ChannelHear(channel(0, 0), long(n))
		impl.ChannelSay(channel(1000000, 0), "x")
	}
	// Whoever has answered may still be on the way out: that takes no time to speak of.
	for range 100000 {
		if runtime.NumGoroutine() <= ahead {
			return
		}
		runtime.Gosched()
	}
	t.Errorf("%d goroutines are left, there were %d", runtime.NumGoroutine(), ahead)
}
