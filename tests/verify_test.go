package tests

import (
	"math"
	"testing"

	"loop.example/g00629/impl"
)

func sigNumbers() []int64 {
	return []int64{
		math.MinInt64, -impl.GroupQ - 1, -impl.GroupQ, -1, 0, 1, 2, 2501,
		impl.GroupQ - 1, impl.GroupQ, impl.GroupQ + 1, 2 * impl.GroupQ, impl.GroupP, 1 << 32, math.MaxInt64,
	}
}

func isSig(s impl.Sig) bool {
	return isWithin(0, s.E, impl.GroupQ-1) && isWithin(0, s.S, impl.GroupQ-1)
}

// bindingAsked is what E must be, of any right y and s.
func bindingAsked(y int64, text string, s impl.Sig) int64 {
	r := libraryPower(impl.GroupG, s.S, impl.GroupP) * libraryPower(y, impl.GroupQ-s.E, impl.GroupP) % impl.GroupP
	return hashAsked(impl.PutNum(r)+impl.PutNum(y)+text, impl.GroupQ)
}

// verdictAsked is what VerifyBy must answer.
func verdictAsked(y int64, text string, s impl.Sig) bool {
	if len(text) > impl.MaxBytes || !isSig(s) || !isWithin(1, y, impl.GroupP-1) {
		return false
	}
	if libraryPower(y, impl.GroupQ, impl.GroupP) != 1 {
		return false
	}
	return s.E == bindingAsked(y, text, s)
}

func TestSigRight(t *testing.T) {
	for _, e := range sigNumbers() {
		for _, s := range sigNumbers() {
			sig := impl.Sig{E: e, S: s}
			if got := impl.SigRight(sig); got != isSig(sig) {
				t.Errorf("SigRight of %+v: got %v", sig, got)
			}
		}
	}
}

func TestVerifyEdges(t *testing.T) {
	text := "pay"
	signed := impl.SignBy(77, text)
	sigs := []impl.Sig{signed, {}}
	for _, n := range sigNumbers() {
		sigs = append(sigs, impl.Sig{E: n, S: signed.S}, impl.Sig{E: signed.E, S: n}, impl.Sig{E: n, S: n})
	}
	ys := []int64{
		math.MinInt64, -impl.GroupP, -4, -1, 0, 1, 2, 4, 5, impl.PublicOf(77), impl.PublicOf(78),
		impl.GroupP - 4, impl.GroupP - 1, impl.GroupP, impl.GroupP + 1, impl.GroupP + 4, 1 << 32, math.MaxInt64,
	}
	for _, y := range ys {
		for _, s := range sigs {
			for _, of := range []string{text, "", "paz", long(impl.MaxBytes), long(impl.MaxBytes + 1)} {
				if got, want := impl.VerifyBy(y, of, s), verdictAsked(y, of, s); got != want {
					t.Errorf("VerifyBy of %d, %d bytes and %+v: got %v, want %v", y, len(of), s, got, want)
				}
			}
		}
	}
}

// Promise 7: by no other E, and by no other S, but where the document's sums meet by chance.
func TestAnotherSig(t *testing.T) {
	text := "pay"
	y, signed := impl.PublicOf(77), impl.SignBy(77, text)
	verified := 0
	for n := int64(-3); n < impl.GroupQ+3; n++ {
		for _, s := range []impl.Sig{{E: n, S: signed.S}, {E: signed.E, S: n}} {
			got := impl.VerifyBy(y, text, s)
			same(t, "another one", got, verdictAsked(y, text, s))
			if got && s != signed {
				verified++
			}
		}
	}
	if verified > 20 {
		t.Errorf("%d other ones are verified: more than chance lets be", verified)
	}
	for _, d := range []int64{1, -1} {
		same(t, "the next E", impl.VerifyBy(y, text, impl.Sig{E: signed.E + d, S: signed.S}), false)
		same(t, "the next S", impl.VerifyBy(y, text, impl.Sig{E: signed.E, S: signed.S + d}), false)
	}
	same(t, "the other way round", impl.VerifyBy(y, text, impl.Sig{E: signed.S, S: signed.E}), false)
}

// otherTexts are near to text: a byte more, less, or turned.
func otherTexts(text string) []string {
	out := []string{text + "\x00", text + " ", "\x00" + text, text + text}
	if text != "" {
		out = append(out, text[1:], text[:len(text)-1], "")
	}
	for i := range len(text) {
		for _, mask := range []byte{1, 32, 128} {
			b := []byte(text)
			b[i] ^= mask
			out = append(out, string(b))
		}
	}
	return out
}

// Promise 7: of no other text, and by no other public number.
func TestAnotherText(t *testing.T) {
	verified, asked := 0, 0
	for _, x := range []int64{1, 2, 77, 2501, impl.GroupQ - 1} {
		for _, text := range []string{"", "p", "pay", "pay 100 to a", long(63), long(200)} {
			y, signed := impl.PublicOf(x), impl.SignBy(x, text)
			for _, other := range otherTexts(text) {
				if other == text {
					continue
				}
				got := impl.VerifyBy(y, other, signed)
				same(t, "another text", got, verdictAsked(y, other, signed))
				asked++
				if got {
					verified++
				}
			}
		}
	}
	if verified > asked/1000+5 {
		t.Errorf("%d of %d other texts are verified: more than chance lets be", verified, asked)
	}
	signed := impl.SignBy(77, "pay")
	same(t, "another text", impl.VerifyBy(impl.PublicOf(77), "paz", signed), false)
	same(t, "another public number", impl.VerifyBy(impl.PublicOf(78), "pay", signed), false)
}

func TestAnotherPublic(t *testing.T) {
	text := "pay"
	signed := impl.SignBy(77, text)
	for y := int64(-3); y < impl.GroupP+3; y++ {
		same(t, "every y", impl.VerifyBy(y, text, signed), verdictAsked(y, text, signed))
	}
}

// matching looks for a Sig of which all holds but what is asked of y.
func matching(y int64, text string) (impl.Sig, bool) {
	for e := int64(0); e < impl.GroupQ; e++ {
		for s := int64(0); s < 40; s++ {
			sig := impl.Sig{E: e, S: s}
			if bindingAsked(y, text, sig) == e {
				return sig, true
			}
		}
	}
	return impl.Sig{}, false
}

// A y that may not be is refused for itself, though E is what r and it make.
func TestVerifyNoPublic(t *testing.T) {
	for _, y := range []int64{
		-impl.GroupP, 4 - impl.GroupP, -1, 0, 5, impl.GroupP - 4, impl.GroupP - 1, impl.GroupP,
		impl.GroupP + 1, impl.GroupP + 4, 2*impl.GroupP + 4,
	} {
		sig, found := matching(y, "pay")
		if !found {
			t.Fatalf("nothing matches %d", y)
		}
		same(t, "no public number", impl.VerifyBy(y, "pay", sig), false)
	}
	for _, y := range []int64{1, 4, 16, impl.GroupP - 5} {
		sig, found := matching(y, "pay")
		if !found {
			t.Fatalf("nothing matches %d", y)
		}
		same(t, "a public number, without a secret", impl.VerifyBy(y, "pay", sig), true)
	}
}

// GroupQ more or less in S makes the same r: it is refused for itself.
func TestVerifyWrongSig(t *testing.T) {
	for _, x := range []int64{1, 77, impl.GroupQ - 1} {
		y, signed := impl.PublicOf(x), impl.SignBy(x, "pay")
		for _, by := range []int64{-2 * impl.GroupQ, -impl.GroupQ, impl.GroupQ, 2 * impl.GroupQ} {
			same(t, "S", impl.VerifyBy(y, "pay", impl.Sig{E: signed.E, S: signed.S + by}), false)
			same(t, "E", impl.VerifyBy(y, "pay", impl.Sig{E: signed.E + by, S: signed.S}), false)
			same(t, "both", impl.VerifyBy(y, "pay", impl.Sig{E: signed.E + by, S: signed.S + by}), false)
		}
	}
}
