package tests

import (
	"math"
	"math/big"
	"reflect"
	"strings"
	"testing"

	"loop.example/g00629/impl"
)

const (
	mostBase    = 1000000
	mostPower   = 1000000000
	mostModulus = 1000000
)

// The numbers about 0 and about the greatest that a call takes, and far from both.
func edgesOf(most int64) []int64 {
	return []int64{math.MinInt64, -most, -2, -1, 0, 1, 2, 3, most - 1, most, most + 1, 2 * most, 1<<32 + 1, math.MaxInt64}
}

func isWithin(low, n, high int64) bool {
	return low <= n && n <= high
}

// libraryPower is reckoned by the library, without any limit.
func libraryPower(a, n, m int64) int64 {
	mod := big.NewInt(m)
	out := new(big.Int).Exp(big.NewInt(a), big.NewInt(n), mod)
	return out.Mod(out, mod).Int64()
}

// powerAsked is what PowMod must answer.
func powerAsked(a, n, m int64) int64 {
	if !isWithin(0, a, mostBase) || !isWithin(0, n, mostPower) || !isWithin(1, m, mostModulus) {
		return 0
	}
	return libraryPower(a, n, m)
}

// hashAsked is what HashTo must answer.
func hashAsked(text string, m int64) int64 {
	if len(text) > impl.MaxBytes || !isWithin(1, m, mostModulus) {
		return 0
	}
	sum := new(big.Int).SetBytes([]byte(libraryDigest(text)[:6]))
	return sum.Mod(sum, big.NewInt(m)).Int64()
}

func isASecret(x int64) bool {
	return isWithin(1, x, impl.GroupQ-1)
}

func TestGroup(t *testing.T) {
	same(t, "P", impl.GroupP, 10007)
	same(t, "Q", impl.GroupQ, 5003)
	same(t, "G", impl.GroupG, 4)
}

func TestPowModKnown(t *testing.T) {
	for _, c := range []struct{ a, n, m, want int64 }{
		{2, 10, 1000, 24},
		{3, 0, 7, 1},
		{0, 0, 7, 1},
		{0, 5, 7, 0},
		{0, 0, 1, 0},
		{5, 0, 1, 0},
		{5, 3, 1, 0},
		{1, mostPower, 2, 1},
		{7, 1, 5, 2},
		{5, 1, 5, 0},
		{1000000, 2, 999999, 1},
		{999999, 2, 1000000, 1},
		{999999, 3, 1000000, 999999},
		{999999, mostPower, 1000000, 1},
		{10, 6, 1000000, 0},
		{1000000, 1, 1000000, 0},
		{4, 5003, 10007, 1},
		{5, 5003, 10007, 10006},
	} {
		same(t, "PowMod", impl.PowMod(c.a, c.n, c.m), c.want)
	}
}

// All edges meet: one that is refused, two, or all three.
func TestPowModEdges(t *testing.T) {
	for _, a := range edgesOf(mostBase) {
		for _, n := range edgesOf(mostPower) {
			for _, m := range append(edgesOf(mostModulus), 7, 10007) {
				if got, want := impl.PowMod(a, n, m), powerAsked(a, n, m); got != want {
					t.Errorf("PowMod of %d, %d, %d: got %d, want %d", a, n, m, got, want)
				}
			}
		}
	}
}

func TestPowModOneByOne(t *testing.T) {
	for m := int64(1); m <= 30; m++ {
		for a := int64(0); a <= 40; a++ {
			want := 1 % m
			for n := int64(0); n <= 40; n++ {
				same(t, "PowMod", impl.PowMod(a, n, m), want)
				want = want * a % m
			}
		}
	}
}

// Promise 7: a to the power of a sum of two numbers is the product of the powers.
func TestPowersGoOverSums(t *testing.T) {
	r := dice(51)
	for range 5000 {
		a, m := r.Int63n(mostBase+1), 1+r.Int63n(mostModulus)
		sum := r.Int63n(mostPower + 1)
		n := r.Int63n(sum + 1)
		product := impl.PowMod(a, n, m) * impl.PowMod(a, sum-n, m) % m
		same(t, "over a sum", impl.PowMod(a, sum, m), product)
		same(t, "by the library", impl.PowMod(a, sum, m), libraryPower(a, sum, m))
	}
	for _, n := range []int64{0, 1, 2, mostPower / 2, mostPower - 1, mostPower} {
		product := impl.PowMod(999983, n, mostModulus) * impl.PowMod(999983, mostPower-n, mostModulus) % mostModulus
		same(t, "over the greatest", impl.PowMod(999983, mostPower, mostModulus), product)
	}
}

func TestHashToKnown(t *testing.T) {
	for _, c := range []struct {
		text    string
		m, want int64
	}{
		{"", 1000000, 448124},
		{"", 2, 0},
		{"abc", 1000000, 494593},
		{"abc", 999999, 519738},
		{"abc", 5003, 16},
		{"abc", 2, 1},
		{"abc", 1, 0},
		{"x", 5002, 172},
	} {
		same(t, c.text, impl.HashTo(c.text, c.m), c.want)
	}
}

func TestHashToEdges(t *testing.T) {
	sizes := append([]int{impl.MaxBytes - 2, impl.MaxBytes + 2}, append(digestSizes, tooLongSizes...)...)
	for _, size := range sizes {
		text := long(size)
		for _, m := range append(edgesOf(mostModulus), 5002, 5003) {
			if got, want := impl.HashTo(text, m), hashAsked(text, m); got != want {
				t.Errorf("HashTo of %d bytes and %d: got %d, want %d", size, m, got, want)
			}
		}
	}
}

func TestHashToOfAnyText(t *testing.T) {
	r := dice(52)
	for range 2000 {
		text, m := randomText(r, r.Intn(200)), 1+r.Int63n(mostModulus)
		same(t, "HashTo", impl.HashTo(text, m), hashAsked(text, m))
	}
}

// By one multiplication each; no two secrets have one public number.
func TestPublicOfEverySecret(t *testing.T) {
	seen := map[int64]int64{}
	want := int64(1)
	for x := int64(1); x < impl.GroupQ; x++ {
		want = want * impl.GroupG % impl.GroupP
		same(t, "PublicOf", impl.PublicOf(x), want)
		if other := seen[want]; other != 0 {
			t.Errorf("%d and %d have the public number %d", other, x, want)
		}
		seen[want] = x
	}
}

func noSecrets() []int64 {
	return []int64{
		0, -1, -2, -impl.GroupQ, 1 - impl.GroupQ, impl.GroupQ, impl.GroupQ + 1, 2 * impl.GroupQ, impl.GroupP - 1,
		1<<32 + 1, math.MaxInt64, math.MinInt64,
	}
}

func TestNoSecret(t *testing.T) {
	for _, x := range noSecrets() {
		same(t, "PublicOf", impl.PublicOf(x), 0)
		same(t, "SignBy", impl.SignBy(x, "pay"), impl.Sig{})
		same(t, "SignBy of no bytes", impl.SignBy(x, ""), impl.Sig{})
		same(t, "SignBy of a full text", impl.SignBy(x, long(impl.MaxBytes)), impl.Sig{})
		same(t, "two faults", impl.SignBy(x, long(impl.MaxBytes+1)), impl.Sig{})
	}
}

func TestSignByKnown(t *testing.T) {
	for _, c := range []struct {
		x      int64
		text   string
		public int64
		sig    impl.Sig
	}{
		{1, "", 4, impl.Sig{E: 1212, S: 401}},
		{1, "a", 4, impl.Sig{E: 3757, S: 4131}},
		{63, "x\x00y", 3681, impl.Sig{E: 1235, S: 1231}},
		{64, "x\x00y", 4717, impl.Sig{E: 370, S: 4620}},
		{77, "pay", 9739, impl.Sig{E: 2675, S: 629}},
		{2501, "pay", 5004, impl.Sig{E: 1904, S: 3411}},
		{5002, "", 2502, impl.Sig{E: 3266, S: 4151}},
		{5002, "pay", 2502, impl.Sig{E: 3812, S: 3257}},
	} {
		same(t, "PublicOf", impl.PublicOf(c.x), c.public)
		same(t, "SignBy", impl.SignBy(c.x, c.text), c.sig)
		same(t, "VerifyBy", impl.VerifyBy(c.public, c.text, c.sig), true)
	}
}

// sigAsked is what SignBy must answer, by the library and this file alone.
func sigAsked(x int64, text string) impl.Sig {
	if len(text) > impl.MaxBytes || !isASecret(x) {
		return impl.Sig{}
	}
	k := hashAsked(impl.PutNum(x)+text, impl.GroupQ-1) + 1
	r := libraryPower(impl.GroupG, k, impl.GroupP)
	public := libraryPower(impl.GroupG, x, impl.GroupP)
	e := hashAsked(impl.PutNum(r)+impl.PutNum(public)+text, impl.GroupQ)
	return impl.Sig{E: e, S: (k + e*x) % impl.GroupQ}
}

// Promise 7: what is signed by a secret is verified by its public.
func TestSignedByEverySecret(t *testing.T) {
	r := dice(53)
	for x := int64(1); x < impl.GroupQ; x++ {
		text := randomText(r, r.Intn(100))
		s := impl.SignBy(x, text)
		same(t, "SignBy", s, sigAsked(x, text))
		same(t, "SigRight", impl.SigRight(s), true)
		same(t, "VerifyBy", impl.VerifyBy(impl.PublicOf(x), text, s), true)
	}
}

// The sizes about which a text has no room more behind the numbers ahead of it:
// HashTo answers 0 there, as the document has it.
func TestSignedTextSizes(t *testing.T) {
	sizes := []int{0, 1, 2, 53, 54, 55, 56, 63, 64, 65, 1000, 7000}
	for n := impl.MaxBytes - 10; n <= impl.MaxBytes; n++ {
		sizes = append(sizes, n)
	}
	for _, n := range sizes {
		for _, x := range []int64{1, 2, 63, 64, 77, 2501, impl.GroupQ - 2, impl.GroupQ - 1} {
			text := long(n)
			s := impl.SignBy(x, text)
			same(t, "SignBy", s, sigAsked(x, text))
			same(t, "VerifyBy", impl.VerifyBy(impl.PublicOf(x), text, s), true)
			other := impl.Sig{E: s.E, S: (s.S + 1) % impl.GroupQ}
			same(t, "another S", impl.VerifyBy(impl.PublicOf(x), text, other), verdictAsked(impl.PublicOf(x), text, other))
		}
	}
	full := long(impl.MaxBytes)
	same(t, "a full text", impl.SignBy(77, full), impl.Sig{E: 0, S: 1})
	same(t, "a full text, another E", impl.VerifyBy(impl.PublicOf(77), full, impl.Sig{E: 1, S: 1}), false)
}

func TestSignedTextTooLong(t *testing.T) {
	for _, n := range tooLongSizes {
		for _, x := range []int64{1, 77, impl.GroupQ - 1} {
			same(t, "SignBy", impl.SignBy(x, long(n)), impl.Sig{})
			for _, s := range []impl.Sig{{}, {E: 0, S: 1}, impl.SignBy(x, "pay"), impl.SignBy(x, long(impl.MaxBytes))} {
				same(t, "VerifyBy", impl.VerifyBy(impl.PublicOf(x), long(n), s), false)
			}
		}
		same(t, "a text and a y", impl.VerifyBy(0, long(n), impl.Sig{}), false)
		same(t, "a text and an E", impl.VerifyBy(impl.PublicOf(1), long(n), impl.Sig{E: -1}), false)
		same(t, "all of them", impl.VerifyBy(-1, long(n), impl.Sig{E: impl.GroupQ, S: -1}), false)
	}
}

// No call keeps anything: whatever was called between, the answer is the same one,
// made of numbers alone, and what was handed in is as it was.
func TestSigningKeepsNothing(t *testing.T) {
	text := strings.Clone("pay")
	first := impl.SignBy(77, text)
	given := first
	for x := int64(-3); x < 200; x++ {
		impl.SignBy(x, long(int(x+3)))
		impl.VerifyBy(impl.PublicOf(77), text, given)
		impl.VerifyBy(impl.PublicOf(x), text, given)
		impl.SigRight(given)
		impl.HashTo(text, x)
		impl.PowMod(x, x, x)
	}
	same(t, "the text", text, "pay")
	same(t, "the Sig", given, first)
	same(t, "again", impl.SignBy(77, text), first)
	same(t, "verified again", impl.VerifyBy(impl.PublicOf(77), text, given), true)
	sig := reflect.TypeFor[impl.Sig]()
	for i := range sig.NumField() {
		same(t, sig.Field(i).Name, sig.Field(i).Type.Kind(), reflect.Int64)
	}
}
