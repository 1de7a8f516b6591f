package tests

import (
	"encoding/binary"
	"hash/crc32"
	"math"
	"testing"

	"loop.example/g00629/impl"
)

func TestCrc(t *testing.T) {
	same(t, "none", impl.Crc(""), 0)
	same(t, "the known one", impl.Crc("123456789"), 0xCBF43926)
	same(t, "above 2^31", impl.Crc("\x00"), 0xD202EF8D)
	for _, n := range []int{1, 2, 3, 4, 5, 63, 64, 1000, impl.MaxBytes - 1, impl.MaxBytes} {
		same(t, "Crc", impl.Crc(long(n)), int64(crc32.ChecksumIEEE([]byte(long(n)))))
	}
	for b := range 256 {
		same(t, "one byte", impl.Crc(string([]byte{byte(b)})), int64(crc32.ChecksumIEEE([]byte{byte(b)})))
	}
	same(t, "too long", impl.Crc(long(impl.MaxBytes+1)), 0)
}

// Promise 2: a CRC goes on from text to text.
func TestCrcGoesOn(t *testing.T) {
	text := long(200)
	for cut := range len(text) + 1 {
		same(t, "cut", impl.CrcMore(impl.Crc(text[:cut]), text[cut:]), impl.Crc(text))
	}
	same(t, "from none", impl.CrcMore(0, text), impl.Crc(text))
	same(t, "by none", impl.CrcMore(impl.Crc(text), ""), impl.Crc(text))
	same(t, "byte by byte", crcByteByByte(text), impl.Crc(text))
}

func crcByteByByte(text string) int64 {
	crc := int64(0)
	for i := range len(text) {
		crc = impl.CrcMore(crc, text[i:i+1])
	}
	return crc
}

// Both texts together may have more bytes than one may: only the one handed in is measured.
func TestCrcGoesOnBeyondOneText(t *testing.T) {
	full := long(impl.MaxBytes)
	want := int64(crc32.ChecksumIEEE([]byte(full + full)))
	same(t, "two full texts", impl.CrcMore(impl.Crc(full), full), want)
}

func TestCrcMoreEdges(t *testing.T) {
	for _, crc := range []int64{0, 1, 1 << 31, math.MaxUint32 - 1, math.MaxUint32} {
		want := int64(crc32.Update(uint32(crc), crc32.IEEETable, []byte("more")))
		same(t, "right", impl.CrcMore(crc, "more"), want)
		same(t, "right, by none", impl.CrcMore(crc, ""), crc)
		same(t, "right, too long", impl.CrcMore(crc, long(impl.MaxBytes+1)), 0)
	}
	for _, crc := range []int64{-1, math.MinInt64, math.MaxUint32 + 1, math.MaxInt64} {
		same(t, "wrong", impl.CrcMore(crc, "more"), 0)
		same(t, "wrong, by none", impl.CrcMore(crc, ""), 0)
		same(t, "wrong, too long", impl.CrcMore(crc, long(impl.MaxBytes+1)), 0)
	}
}

func TestSealBytes(t *testing.T) {
	same(t, "none", impl.Seal(""), "\x00\x00\x00\x00")
	same(t, "the known one", impl.Seal("123456789"), "123456789\x26\x39\xf4\xcb")
	text := long(500)
	sum := binary.LittleEndian.AppendUint32(nil, crc32.ChecksumIEEE([]byte(text)))
	same(t, "500", impl.Seal(text), text+string(sum))
}

// Promise 2: a sealed text comes back.
func TestSealedComesBack(t *testing.T) {
	for _, n := range []int{0, 1, 2, 3, 4, 5, 64, 1000, impl.MaxBytes - 5, impl.MaxBytes - 4} {
		text := long(n)
		sealed := impl.Seal(text)
		same(t, "size", len(sealed), n+4)
		same(t, "back", impl.Unseal(sealed), impl.TextOut{Text: text})
	}
	same(t, "twice", impl.Unseal(impl.Unseal(impl.Seal(impl.Seal("ab"))).Text), impl.TextOut{Text: "ab"})
}

func TestSealTooLong(t *testing.T) {
	for _, n := range []int{impl.MaxBytes - 3, impl.MaxBytes, impl.MaxBytes + 1, 2 * impl.MaxBytes} {
		same(t, "Seal", impl.Seal(long(n)), "")
	}
}

// turned is the text with the byte at that place put together with by.
func turned(text string, at int, by byte) string {
	b := []byte(text)
	b[at] ^= by
	return string(b)
}

// Promise 2: with one byte turned, whichever and however, it is refused.
func TestTurnedIsRefused(t *testing.T) {
	refused := impl.TextOut{Code: impl.ErrSum}
	for _, n := range []int{0, 1, 4, 30} {
		sealed := impl.Seal(long(n))
		for at := range len(sealed) {
			for by := 1; by < 256; by++ {
				same(t, "turned", impl.Unseal(turned(sealed, at, byte(by))), refused)
			}
		}
	}
	sealed := impl.Seal(long(impl.MaxBytes - 4))
	for _, at := range []int{0, 4000, impl.MaxBytes - 5, impl.MaxBytes - 4, impl.MaxBytes - 1} {
		same(t, "turned, the longest", impl.Unseal(turned(sealed, at, 1)), refused)
	}
}

func TestUnsealFaults(t *testing.T) {
	sealed := impl.Seal("abc")
	for _, c := range []struct {
		what string
		text string
		code int64
	}{
		{"none", "", impl.ErrShort},
		{"one byte", "\x00", impl.ErrShort},
		{"three bytes, which could be no seal either", "abc", impl.ErrShort},
		{"three bytes of a seal", "\x00\x00\x00", impl.ErrShort},
		{"four bytes that are no seal", "\x00\x00\x00\x01", impl.ErrSum},
		{"the last byte lacks", sealed[:len(sealed)-1], impl.ErrSum},
		{"the first byte lacks", sealed[1:], impl.ErrSum},
		{"one byte more", sealed + "\x00", impl.ErrSum},
		{"the sum's highest byte first", "123456789\xcb\xf4\x39\x26", impl.ErrSum},
		{"a full text that is no seal", long(impl.MaxBytes), impl.ErrSum},
		{"too long, and no seal", long(impl.MaxBytes + 1), impl.ErrSize},
		{"too long, and a seal", tooLongSeal(), impl.ErrSize},
	} {
		same(t, c.what, impl.Unseal(c.text), impl.TextOut{Code: c.code})
	}
}

// tooLongSeal would be a seal, were it not for its size.
func tooLongSeal() string {
	body := []byte(long(impl.MaxBytes - 3))
	return string(binary.LittleEndian.AppendUint32(body, crc32.ChecksumIEEE(body)))
}
