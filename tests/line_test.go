package tests

import (
	"math"
	"strings"
	"testing"

	"loop.example/g00629/impl"
)

func textAsked(t string) string {
	return numAsked(int64(len(t))) + t
}

// keyAsked is the Key of a Channel, by the library.
func keyAsked(secret, ours, theirs string) string {
	if theirs < ours {
		ours, theirs = theirs, ours
	}
	return libraryMac(secret, textAsked(ours)+textAsked(theirs))
}

func isAChannel(c impl.Channel) bool {
	return len(c.Key) == 32 && isWithin(0, c.Sent, 1000000) && isWithin(0, c.Seen, 1000000)
}

func channelAsked(secret, ours, theirs string) impl.ChannelOut {
	texts := []string{secret, ours, theirs}
	for _, t := range texts {
		if len(t) > impl.MaxBytes {
			return impl.ChannelOut{Code: impl.ErrSize}
		}
	}
	for _, t := range texts {
		if len(t) < 1 || len(t) > 32 {
			return impl.ChannelOut{Code: impl.ErrForm}
		}
	}
	if ours == theirs {
		return impl.ChannelOut{Code: impl.ErrForm}
	}
	return impl.ChannelOut{Channel: impl.Channel{Key: keyAsked(secret, ours, theirs)}}
}

func sameChannelOut(t *testing.T, what string, got, want impl.ChannelOut) {
	t.Helper()
	if got != want {
		t.Errorf("%s: got %+v, want %+v", what, got, want)
	}
}

func channel(sent, seen int64) impl.Channel {
	return impl.Channel{Key: keyAsked("secret", "box", "card"), Sent: sent, Seen: seen}
}

// lineTimes are the numbers that Sent and Seen may have, and such as they may not.
func lineTimes() []int64 {
	return []int64{math.MinInt64, -1000000, -2, -1, 0, 1, 2, 63, 64, 8191, 8192, 999999, 1000000, 1000001, 2000000,
		1 << 32, 1<<32 + 1, math.MaxInt64}
}

func rightChannels() []impl.Channel {
	var all []impl.Channel
	for _, sent := range []int64{0, 1, 62, 63, 64, 8191, 8192, 999998, 999999, 1000000} {
		for _, seen := range []int64{0, 1, 63, 64, 999999, 1000000} {
			all = append(all, channel(sent, seen))
		}
	}
	return append(all, impl.Channel{Key: strings.Repeat("\x00", 32)}, impl.Channel{Key: strings.Repeat("\xff", 32), Sent: 5, Seen: 7},
		impl.Channel{Key: long(32), Sent: 1000000, Seen: 1000000})
}

// wrongChannels are right ones but for one thing, and some for more.
func wrongChannels() []impl.Channel {
	all := []impl.Channel{{}, {Sent: 1, Seen: 1}, {Key: "x", Sent: -1, Seen: -1}}
	for _, size := range []int{0, 1, 16, 31, 33, 64, 256 + 32, impl.MaxBytes, impl.MaxBytes + 1} {
		all = append(all, impl.Channel{Key: long(size)}, impl.Channel{Key: long(size), Sent: 1000000, Seen: 1},
			impl.Channel{Key: long(size), Sent: 1000001})
	}
	for _, n := range []int64{-1, -2, 1000001, 1000002, 1 << 32, 1<<32 + 1, math.MinInt64, math.MaxInt64} {
		all = append(all, channel(n, 0), channel(0, n), channel(n, n), channel(1000000, n), channel(n, 1000000))
	}
	return all
}

// lineTexts have 1, 2, 31 and 32 bytes, or are the beginning of another one.
func lineTexts() []string {
	return []string{"a", "b", "ab", "aa", "a\x00", "\x00", "\x00\x00", "\xff", "Z", "box", "card", "box1", "ä",
		long(31), long(32), strings.Repeat("a", 31), strings.Repeat("a", 32), strings.Repeat("\xff", 31), strings.Repeat("\xff", 32)}
}

// noLineTexts are empty or too long; the last ones are refused for it ahead of all else.
func noLineTexts() []string {
	return []string{"", long(33), strings.Repeat("a", 33), long(64), long(256 + 1), long(impl.MaxBytes),
		long(impl.MaxBytes + 1), strings.Repeat("a", 2*impl.MaxBytes)}
}

func TestChannelRight(t *testing.T) {
	for _, c := range rightChannels() {
		same(t, "right", impl.ChannelRight(c), true)
	}
	for _, c := range wrongChannels() {
		same(t, "not right", impl.ChannelRight(c), false)
	}
	for n := range 300 {
		same(t, "a Key of so many bytes", impl.ChannelRight(impl.Channel{Key: long(n), Sent: 3, Seen: 4}), n == 32)
	}
}

// All edges meet.
func TestChannelRightEdges(t *testing.T) {
	for _, size := range []int{0, 31, 32, 33, impl.MaxBytes + 1} {
		for _, sent := range lineTimes() {
			for _, seen := range lineTimes() {
				c := impl.Channel{Key: long(size), Sent: sent, Seen: seen}
				if impl.ChannelRight(c) != isAChannel(c) {
					t.Errorf("ChannelRight of a Key of %d bytes, %d, %d: got %v", size, sent, seen, !isAChannel(c))
				}
			}
		}
	}
}

func TestChannelNewKnown(t *testing.T) {
	for _, x := range []struct {
		secret, ours, theirs string
		want                 string
	}{
		{"secret", "box", "card", "c06d42f33b81ab6cf10f2279fea9e861b2e8d76c90f008d7bbff1011b433bf47"},
		{"x", "a", "ab", "be08e6f43f6d1af81ac0dbef71c149806e369786079537ba1aa6fe701f5f048a"},
		{strings.Repeat("\xff", 32), strings.Repeat("\x00", 32), strings.Repeat("\x00", 31),
			"5b9f9fc2826cc8446d41ccaf5662cc917f808d18c43771c14276a6acceb818bd"},
	} {
		for range 2 {
			out := impl.ChannelNew(x.secret, x.ours, x.theirs)
			same(t, "Key", hexed(out.Channel.Key), x.want)
			out.Channel.Key = ""
			sameChannelOut(t, "all else", out, impl.ChannelOut{})
			x.ours, x.theirs = x.theirs, x.ours
		}
	}
}

// Each of the three texts, right or not, meets each of the others.
func TestChannelNewEdges(t *testing.T) {
	texts := append(append([]string{}, lineTexts()...), noLineTexts()...)
	for _, ours := range texts {
		for _, theirs := range texts {
			for _, secret := range texts {
				got, want := impl.ChannelNew(secret, ours, theirs), channelAsked(secret, ours, theirs)
				if got != want {
					t.Errorf("ChannelNew of %d bytes, %.9q, %.9q: got %+v, want %+v", len(secret), ours, theirs, got, want)
				}
				same(t, "right", impl.ChannelRight(got.Channel), got.Code == impl.OK)
			}
		}
	}
}

// Each size by itself, of each of the three.
func TestChannelNewSizes(t *testing.T) {
	for n := range 300 {
		text, code := strings.Repeat("x", n), int64(impl.ErrForm)
		if n >= 1 && n <= 32 {
			code = impl.OK
		}
		same(t, "the secret", impl.ChannelNew(text, "a", "b").Code, code)
		same(t, "ours", impl.ChannelNew("s", text, "b").Code, code)
		same(t, "theirs", impl.ChannelNew("s", "a", text).Code, code)
		same(t, "both alike", impl.ChannelNew("s", text, text).Code, int64(impl.ErrForm))
	}
}

func TestChannelNewFaultOrder(t *testing.T) {
	tooLong := long(impl.MaxBytes + 1)
	for _, x := range []struct {
		what                 string
		secret, ours, theirs string
		code                 int64
	}{
		{"the secret empty", "", "a", "b", impl.ErrForm},
		{"ours empty", "s", "", "b", impl.ErrForm},
		{"theirs empty", "s", "a", "", impl.ErrForm},
		{"all empty", "", "", "", impl.ErrForm},
		{"alike", "s", "a", "a", impl.ErrForm},
		{"the secret as theirs", "a", "b", "a", impl.OK},
		{"the secret too long", tooLong, "a", "b", impl.ErrSize},
		{"ours too long", "s", tooLong, "b", impl.ErrSize},
		{"theirs too long", "s", "a", tooLong, impl.ErrSize},
		{"the secret too long, the others empty", tooLong, "", "", impl.ErrSize},
		{"the secret too long, the others alike", tooLong, "a", "a", impl.ErrSize},
		{"the secret empty, ours too long", "", tooLong, "b", impl.ErrSize},
		{"the secret and ours empty, theirs too long", "", "", tooLong, impl.ErrSize},
		{"both too long, and alike", "s", tooLong, tooLong, impl.ErrSize},
		{"full, not more", long(impl.MaxBytes), long(impl.MaxBytes), "b", impl.ErrForm},
	} {
		out := impl.ChannelNew(x.secret, x.ours, x.theirs)
		same(t, x.what, out.Code, x.code)
		if x.code != impl.OK {
			sameChannelOut(t, x.what, out, impl.ChannelOut{Code: x.code})
		}
	}
}

// Whoever is at which end, both have one Channel; any other two names make another one,
// also those that make the same text, one put behind the other.
func TestChannelOfNoOtherNames(t *testing.T) {
	seen := map[string][2]string{}
	for _, ours := range append(lineTexts(), "bc", "abc", "c", "\x02a", "a\x02", "\x04", "card\x06box") {
		for _, theirs := range append(lineTexts(), "bc", "abc", "c", "\x02a", "a\x02", "\x04", "card\x06box") {
			if ours == theirs {
				continue
			}
			c := impl.ChannelNew("secret", ours, theirs).Channel
			same(t, "from over there", impl.ChannelNew("secret", theirs, ours).Channel, c)
			names := [2]string{min(ours, theirs), max(ours, theirs)}
			if other, ok := seen[c.Key]; ok && other != names {
				t.Errorf("%q and %q have one Key", names, other)
			}
			seen[c.Key] = names
		}
	}
}
