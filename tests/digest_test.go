package tests

import (
	"crypto/hmac"
	"crypto/sha256"
	"encoding/hex"
	"math"
	"strings"
	"testing"

	"loop.example/g00629/impl"
)

// The sizes about which the filling up of a text turns, and the limits.
var digestSizes = []int{
	0, 1, 2, 31, 32, 33, 54, 55, 56, 57, 62, 63, 64, 65, 66, 118, 119, 120, 121, 127, 128, 129,
	impl.MaxBytes - 1, impl.MaxBytes,
}

var tooLongSizes = []int{impl.MaxBytes + 1, impl.MaxBytes + 64, 2 * impl.MaxBytes}

func hexed(text string) string {
	return hex.EncodeToString([]byte(text))
}

// libraryDigest and libraryMac are reckoned by the library, whatever the size.
func libraryDigest(text string) string {
	sum := sha256.Sum256([]byte(text))
	return string(sum[:])
}

func libraryMac(key, text string) string {
	h := hmac.New(sha256.New, []byte(key))
	h.Write([]byte(text))
	return string(h.Sum(nil))
}

func TestDigestKnown(t *testing.T) {
	for _, c := range []struct{ text, want string }{
		{"", "e3b0c44298fc1c149afbf4c8996fb92427ae41e4649b934ca495991b7852b855"},
		{"abc", "ba7816bf8f01cfea414140de5dae2223b00361a396177a9cb410ff61f20015ad"},
		{"abcdbcdecdefdefgefghfghighijhijkijkljklmklmnlmnomnopnopq",
			"248d6a61d20638b8e5c026930c3e6039a33ce45964ff2167f6ecedd419db06c1"},
		{"abcdefghbcdefghicdefghijdefghijkefghijklfghijklmghijklmnhijklmnoijklmnopjklmnopqklmnopqrlmnopqrsmnopqrstnopqrstu",
			"cf5b16a778af8380036ce59e7b0492370b249b11e8f07a51afac45037afee9d1"},
		{"\xbd", "68325720aabd7c82f30f554b313d0570c95accbb7dc4b5aae11204c08ffe732b"},
	} {
		same(t, c.text, hexed(impl.Digest(c.text)), c.want)
	}
}

func TestDigestSizes(t *testing.T) {
	for _, n := range digestSizes {
		text := long(n)
		same(t, "Digest", hexed(impl.Digest(text)), hexed(libraryDigest(text)))
		noughts := strings.Repeat("\x00", n)
		same(t, "Digest of noughts", hexed(impl.Digest(noughts)), hexed(libraryDigest(noughts)))
	}
	for n := range 300 {
		same(t, "Digest", hexed(impl.Digest(long(n))), hexed(libraryDigest(long(n))))
	}
	for _, n := range tooLongSizes {
		same(t, "too long", impl.Digest(long(n)), "")
	}
}

func TestDigestOfAnyText(t *testing.T) {
	r := dice(31)
	for range 500 {
		text := randomText(r, r.Intn(400))
		same(t, "Digest", hexed(impl.Digest(text)), hexed(libraryDigest(text)))
	}
}

func TestMacKnown(t *testing.T) {
	for _, c := range []struct{ what, key, text, want string }{
		{"20 bytes", strings.Repeat("\x0b", 20), "Hi There",
			"b0344c61d8db38535ca8afceaf0bf12b881dc200c9833da726e9376c2e32cff7"},
		{"shorter than the digest", "Jefe", "what do ya want for nothing?",
			"5bdcc146bf60754e6a042426089575c75a003f089d2739839dec58b964ec3843"},
		{"more than 64 bytes together", strings.Repeat("\xaa", 20), strings.Repeat("\xdd", 50),
			"773ea91e36800e46854db8ebd09181a72959098b3ef8c122d9635514ced565fe"},
		{"a key longer than a block", strings.Repeat("\xaa", 131), "Test Using Larger Than Block-Size Key - Hash Key First",
			"60e431591ee0b67f0d8a26aacbf5b77f8e0bc6213728c5140546040f0ee37f54"},
		{"key and text longer than a block", strings.Repeat("\xaa", 131),
			"This is a test using a larger than block-size key and a larger than block-size data. " +
				"The key needs to be hashed before being used by the HMAC algorithm.",
			"9b09ffa71b942fcb27635fbcd5b0e944bfdc63644f0713938a7f51535c3a35e2"},
		{"nothing at all", "", "",
			"b613679a0814d9ec772f95d778c35fc5ff1697c493715653c6c712144292c5ad"},
	} {
		same(t, c.what, hexed(impl.Mac(c.key, c.text)), c.want)
	}
}

// digestOfParts is the Digest of texts that may be longer together than one handed in may be.
func digestOfParts(parts ...string) string {
	all := strings.Join(parts, "")
	if len(all) > impl.MaxBytes {
		return libraryDigest(all)
	}
	return impl.Digest(all)
}

// macByDigests makes the mac of digests alone, as promise 3 has it.
func macByDigests(key, text string) string {
	if len(key) > 64 {
		key = impl.Digest(key)
	}
	key += strings.Repeat("\x00", 64-len(key))
	inner, outer := []byte(key), []byte(key)
	for i := range 64 {
		inner[i] ^= 54
		outer[i] ^= 92
	}
	return digestOfParts(string(outer), digestOfParts(string(inner), text))
}

// Promise 3: a key and text have the mac that digests make of them.
func TestMacSizes(t *testing.T) {
	keys := []int{0, 1, 20, 31, 32, 33, 63, 64, 65, 66, 128, impl.MaxBytes - 1, impl.MaxBytes}
	for _, k := range keys {
		for _, n := range append([]int{impl.MaxBytes - 65, impl.MaxBytes - 64, impl.MaxBytes - 63}, digestSizes...) {
			key, text := long(k + 3)[3:], long(n)
			same(t, "by the library", hexed(impl.Mac(key, text)), hexed(libraryMac(key, text)))
			same(t, "by digests", hexed(impl.Mac(key, text)), hexed(macByDigests(key, text)))
		}
	}
}

func TestMacOfAnyKeyAndText(t *testing.T) {
	r := dice(32)
	for range 500 {
		key, text := randomText(r, r.Intn(140)), randomText(r, r.Intn(300))
		same(t, "by the library", hexed(impl.Mac(key, text)), hexed(libraryMac(key, text)))
		same(t, "by digests", hexed(impl.Mac(key, text)), hexed(macByDigests(key, text)))
	}
}

// A short key is filled up, a long one is its digest: these pairs are told alike, and no others.
func TestMacKeys(t *testing.T) {
	text := "text"
	full, more := long(64), long(65)
	same(t, "filled up", impl.Mac("key", text), impl.Mac("key\x00\x00", text))
	same(t, "of 65 bytes", impl.Mac(more, text), impl.Mac(impl.Digest(more), text))
	same(t, "of 64 bytes", impl.Mac(full, text) == impl.Mac(impl.Digest(full), text), false)
	same(t, "the other way round", impl.Mac("key", text) == impl.Mac(text, "key"), false)
}

func TestMacTooLong(t *testing.T) {
	full := long(impl.MaxBytes)
	for _, n := range tooLongSizes {
		same(t, "key", impl.Mac(long(n), ""), "")
		same(t, "key, by a full text", impl.Mac(long(n), full), "")
		same(t, "text", impl.Mac("", long(n)), "")
		same(t, "text, by a full key", impl.Mac(full, long(n)), "")
		same(t, "both", impl.Mac(long(n), long(n)), "")
	}
}

func stretchedByMacs(pass string, rounds int64) string {
	told := "salt"
	for range rounds {
		told = libraryMac(pass, told)
	}
	return told
}

func TestStretch(t *testing.T) {
	for _, n := range []int{0, 1, 4, 63, 64, 65, 1000, impl.MaxBytes - 1, impl.MaxBytes} {
		pass := long(n)
		for _, rounds := range []int64{1, 2, 3, 99, 100} {
			same(t, "Stretch", hexed(impl.Stretch(pass, rounds)), hexed(stretchedByMacs(pass, rounds)))
		}
	}
	same(t, "one round", impl.Stretch("p", 1), impl.Mac("p", "salt"))
	same(t, "one round more", impl.Stretch("p", 100), impl.Mac("p", impl.Stretch("p", 99)))
}

func TestStretchRefused(t *testing.T) {
	for _, rounds := range []int64{0, -1, -100, 101, 102, 1000, 1 << 32, 1<<32 + 1, math.MaxInt64, math.MinInt64} {
		same(t, "rounds", impl.Stretch("p", rounds), "")
		same(t, "rounds, no pass", impl.Stretch("", rounds), "")
		same(t, "both", impl.Stretch(long(impl.MaxBytes+1), rounds), "")
	}
	for _, n := range tooLongSizes {
		same(t, "pass", impl.Stretch(long(n), 1), "")
		same(t, "pass", impl.Stretch(long(n), 100), "")
	}
}

func unhexed(t *testing.T, text string) []byte {
	t.Helper()
	b, err := hex.DecodeString(text)
	if err != nil {
		t.Fatal(err)
	}
	return b
}
