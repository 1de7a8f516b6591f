package tests

import (
	"encoding/hex"
	"math"
	"slices"
	"strings"
	"testing"
	"unsafe"

	"loop.example/g00629/impl"
)

// sharesAsked is what Split must answer, by the library's mac and logarithms alone: the
// bytes are worked out from the highest power down.
func sharesAsked(secret string, need, cards int64, salt string) []impl.Share {
	if !isWithin(1, int64(len(secret)), 16) || !isWithin(1, cards, 6) || !isWithin(1, need, cards) ||
		!isWithin(1, int64(len(salt)), 64) {
		return nil
	}
	var shares []impl.Share
	for x := int64(1); x <= cards; x++ {
		data := make([]byte, len(secret))
		for i := range data {
			sum := int64(0)
			for j := need - 1; j >= 1; j-- {
				sum = productAsked(sum^int64(libraryMac(salt, impl.PutNum(j))[i]), x)
			}
			data[i] = byte(sum) ^ secret[i]
		}
		shares = append(shares, impl.Share{Index: x, Data: string(data)})
	}
	return shares
}

func sameShares(t *testing.T, what string, got, want []impl.Share) {
	t.Helper()
	if !slices.Equal(got, want) {
		t.Errorf("%s: got %+v, want %+v", what, got, want)
	}
}

// noNumbers are counts that are neither of shares nor of cards.
func noNumbers() []int64 {
	return []int64{0, -1, -2, -6, math.MinInt64, 1<<32 + 1, 1<<32 + 6, 1 << 62, math.MaxInt64}
}

func TestShareConstants(t *testing.T) {
	same(t, "MaxCards", impl.MaxCards, 6)
	same(t, "MaxSecret", impl.MaxSecret, 16)
}

func TestShareRight(t *testing.T) {
	sizes := []int{0, 1, 2, 15, 16, 17, 18, 64, impl.MaxBytes, impl.MaxBytes + 1}
	indexes := append(noNumbers(), 1, 2, 3, 4, 5, 6, 7, 8, 255, 256, 257)
	for _, size := range sizes {
		for _, index := range indexes {
			s := impl.Share{Index: index, Data: long(size)}
			want := isWithin(1, index, 6) && isWithin(1, int64(size), 16)
			if got := impl.ShareRight(s); got != want {
				t.Errorf("ShareRight of %d and %d bytes: got %t, want %t", index, size, got, want)
			}
		}
	}
	same(t, "the zero Share", impl.ShareRight(impl.Share{}), false)
	same(t, "bytes 0", impl.ShareRight(impl.Share{Index: 6, Data: "\x00\x00"}), true)
}

func TestSplitKnown(t *testing.T) {
	for _, c := range []struct {
		secret      string
		need, cards int64
		salt        string
		want        []string
	}{
		{"ab", 2, 3, "salt", []string{"1b46", "952a", "ef0e"}},
		{"ab", 1, 2, "salt", []string{"6162", "6162"}},
		{"master-secret", 2, 3, "salt", []string{
			"174568696f1ac61c481b2fc81a", "9929454e71a2e6ad3f93c822a8", "e30d5e537bca0dc212eb958fc6"}},
		{"\x00", 6, 6, "s", []string{"cb", "ee", "06", "41", "b7", "59"}},
		{"0123456789abcdef", 3, 5, strings.Repeat("x", 64), []string{
			"f62772e6d95ae693311a366d113433c9", "a568fcd27aada3f64b2b7139c6c0d690", "637ebc0797c2735242082636b490803f",
			"174a96a9b61da1c2475083dd2d216279", "d15cd67c5b7271664e73d4d25f7134d6"}},
		{strings.Repeat("\xff", 16), 6, 6, "\x00", []string{
			"8fcd02f81297b0f084e12036111b7c62", "058d2f1f0b556349c4d18fb353c7d654", "742888aa28f5c935cf875952537b9ad2",
			"40a7131071c80b048c8126b4bcb0f651", "b6553ee6474337b54d87cf0f08e0dbdb", "af2e0bfd31bec20203a21ebc3b8085b8"}},
	} {
		shares := impl.Split(c.secret, c.need, c.cards, c.salt)
		same(t, "how many", len(shares), len(c.want))
		for n, s := range shares {
			same(t, "Index", s.Index, int64(n)+1)
			same(t, "Data", hex.EncodeToString([]byte(s.Data)), c.want[n])
		}
		same(t, "joined", impl.Join(c.need, shares), c.secret)
	}
}

// All edges meet: none is refused, one, two, three, or all four.
func TestSplitEdges(t *testing.T) {
	counts := append(noNumbers(), 1, 2, 3, 4, 5, 6, 7, 8)
	for _, secretSize := range []int{0, 1, 2, 15, 16, 17, 32, impl.MaxBytes, impl.MaxBytes + 1} {
		for _, saltSize := range []int{0, 1, 2, 63, 64, 65, 128, impl.MaxBytes, impl.MaxBytes + 1} {
			secret, salt := long(secretSize), long(saltSize)
			for _, cards := range counts {
				for _, need := range counts {
					got, want := impl.Split(secret, need, cards, salt), sharesAsked(secret, need, cards, salt)
					if !slices.Equal(got, want) {
						t.Errorf("Split of %d bytes, %d of %d, a salt of %d: got %+v, want %+v", secretSize, need, cards, saltSize, got, want)
					}
				}
			}
		}
	}
}

func TestSplitOfAnySecret(t *testing.T) {
	r := dice(62)
	for range 2000 {
		secret, salt := randomText(r, 1+r.Intn(16)), randomText(r, 1+r.Intn(64))
		cards := 1 + r.Int63n(6)
		need := 1 + r.Int63n(cards)
		shares := impl.Split(secret, need, cards, salt)
		sameShares(t, "Split", shares, sharesAsked(secret, need, cards, salt))
		for _, s := range shares {
			same(t, "ShareRight", impl.ShareRight(s), true)
		}
	}
}

// What hides a secret hangs on the salt alone, and where one Share is enough nothing does.
func TestSplitSaltAndNeed(t *testing.T) {
	for _, s := range impl.Split("secret", 1, 6, "salt") {
		same(t, "one is enough", s.Data, "secret")
	}
	first, other := impl.Split("secret", 3, 5, "salt"), impl.Split("secret", 3, 5, "tlas")
	for n := range first {
		same(t, "another salt", first[n].Data == other[n].Data, false)
		same(t, "not the secret", first[n].Data == "secret", false)
	}
	sameShares(t, "fewer cards", impl.Split("secret", 3, 4, "salt"), first[:4])
}

// Bytes that no Share has room for are not to be seen behind those it has.
func TestSplitMemory(t *testing.T) {
	secret, salt := strings.Clone("master-secret"), strings.Clone("salt")
	for need := int64(1); need <= 6; need++ {
		first := impl.Split(secret, need, 6, salt)
		kept := slices.Clone(first)
		second := impl.Split(secret, need, 6, salt)
		for n := range second {
			same(t, "shared with the secret", unsafe.StringData(second[n].Data) == unsafe.StringData(secret), false)
			second[n] = impl.Share{Index: 9, Data: "other"}
		}
		second = append(second[:2], second[:1]...)
		same(t, "written over", second[0].Index, 9)
		sameShares(t, "the first answer", first, kept)
		sameShares(t, "again", impl.Split(secret, need, 6, salt), kept)
	}
	same(t, "the secret", secret, "master-secret")
	same(t, "the salt", salt, "salt")
}
