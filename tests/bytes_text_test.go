package tests

import (
	"math"
	"strings"
	"testing"

	"loop.example/g00629/impl"
)

func TestPutTextBytes(t *testing.T) {
	same(t, "none", impl.PutText(""), "\x00")
	same(t, "two", impl.PutText("ab"), "\x04ab")
	same(t, "64", impl.PutText(long(64)), "\x80\x01"+long(64))
	same(t, "the most", impl.PutText(long(impl.MaxBytes)), "\x80\x7d"+long(impl.MaxBytes))
	same(t, "one more", impl.PutText(long(impl.MaxBytes+1)), "")
	same(t, "many more", impl.PutText(long(3*impl.MaxBytes)), "")
}

// Promise 1, of texts: each that fits in comes back, wherever it stands.
func TestTextComesBack(t *testing.T) {
	for _, n := range []int{0, 1, 2, 63, 64, 65, 127, 128, 255, 256, 4000, impl.MaxBytes - 3, impl.MaxBytes - 2} {
		text := long(n)
		put := impl.PutText(text)
		same(t, "alone", impl.GetText(put, 0), impl.TextOut{Text: text, At: int64(len(put))})
	}
	for _, n := range []int{0, 1, 63, 64, 4000, impl.MaxBytes - 5} {
		text := long(n)
		put := impl.PutText(text)
		want := impl.TextOut{Text: text, At: int64(len(put)) + 2}
		same(t, "within", impl.GetText("\xff\xff"+put+"\xff", 2), want)
	}
}

func TestTextsInARow(t *testing.T) {
	parts := []string{"", "a", "\x00", "\xff\x80", long(64), "", long(300)}
	text := ""
	for _, p := range parts {
		text += impl.PutText(p)
	}
	at := int64(0)
	for _, p := range parts {
		got := impl.GetText(text, at)
		same(t, "code", got.Code, impl.OK)
		same(t, "text", got.Text, p)
		at = got.At
	}
	same(t, "end", at, int64(len(text)))
}

func TestGetTextFaults(t *testing.T) {
	for _, c := range []placeFault{
		{"a place below 0", "\x00", -1, impl.ErrForm},
		{"the least place", "\x00", math.MinInt64, impl.ErrForm},
		{"no text", "", 0, impl.ErrShort},
		{"at the end", "\x04ab", 3, impl.ErrShort},
		{"behind the end", "\x04ab", 4, impl.ErrShort},
		{"the greatest place", "\x04ab", math.MaxInt64, impl.ErrShort},
		{"a length that does not end", "\x80", 0, impl.ErrShort},
		{"a needless byte in the length", "\x84\x00ab", 0, impl.ErrSyntax},
		{"a length that is no number", strings.Repeat("\xff", 10) + "ab", 0, impl.ErrSyntax},
		{"a length below 0", "\x01ab", 0, impl.ErrSyntax},
		{"the least length", impl.PutNum(math.MinInt64) + "ab", 0, impl.ErrSyntax},
		{"one byte lacks", "\x04a", 0, impl.ErrShort},
		{"all bytes lack", "\x04", 0, impl.ErrShort},
		{"MaxBytes do not fit in", impl.PutNum(impl.MaxBytes) + long(100), 0, impl.ErrShort},
		{"nor do they in a full text", impl.PutNum(impl.MaxBytes) + long(impl.MaxBytes-2), 0, impl.ErrShort},
		{"nor one less", impl.PutNum(impl.MaxBytes-1) + long(impl.MaxBytes-2), 0, impl.ErrShort},
		{"too long", impl.PutText(long(impl.MaxBytes)), 0, impl.ErrSize},
		{"one too long", impl.PutText(long(impl.MaxBytes - 1)), 0, impl.ErrSize},
	} {
		same(t, c.what, impl.GetText(c.text, c.at), impl.TextOut{Code: c.code})
	}
}

// Of two faults the one that is named first is told.
func TestGetTextFaultOrder(t *testing.T) {
	tooLong := strings.Repeat("\x01", impl.MaxBytes+1)
	for _, c := range []placeFault{
		{"size ahead of form", tooLong, -1, impl.ErrSize},
		{"size ahead of short", tooLong, impl.MaxBytes + 1, impl.ErrSize},
		{"size ahead of syntax", tooLong, 0, impl.ErrSize},
		{"form ahead of short", "", -1, impl.ErrForm},
		{"form ahead of syntax", "\x01", -1, impl.ErrForm},
		{"a needless byte ahead of what lacks", "\x84\x00", 0, impl.ErrSyntax},
		{"no number ahead of what lacks", strings.Repeat("\x80", 10), 0, impl.ErrSyntax},
		{"a length below 0 ahead of what lacks", "\x01", 0, impl.ErrSyntax},
		{"a length above MaxBytes ahead of what lacks", impl.PutNum(impl.MaxBytes + 1), 0, impl.ErrSyntax},
		{"the greatest length ahead of what lacks", impl.PutNum(math.MaxInt64), 0, impl.ErrSyntax},
		{"an endless length ahead of its being below 0", "\x81", 0, impl.ErrShort},
		{"MaxBytes itself only lacks", impl.PutNum(impl.MaxBytes), 0, impl.ErrShort},
	} {
		same(t, c.what, impl.GetText(c.text, c.at), impl.TextOut{Code: c.code})
	}
}

// wantText is what the document asks of GetText, told on top of another reader of numbers.
func wantText(text string, at int64) impl.TextOut {
	num := wantNum(text, at)
	if num.Code != impl.OK {
		return impl.TextOut{Code: num.Code}
	}
	if num.N < 0 || num.N > impl.MaxBytes {
		return impl.TextOut{Code: impl.ErrSyntax}
	}
	end := num.At + num.N
	if end > int64(len(text)) {
		return impl.TextOut{Code: impl.ErrShort}
	}
	return impl.TextOut{Text: text[num.At:end], At: end}
}

func TestGetTextOfAnyText(t *testing.T) {
	r := dice(4)
	for range 20000 {
		text := randomText(r, r.Intn(40))
		at := int64(r.Intn(8) - 1)
		same(t, "GetText", impl.GetText(text, at), wantText(text, at))
	}
}

func TestNameRight(t *testing.T) {
	for _, n := range []string{"a", "z", "a0", "a9", "a_", "az_09", "a_______", strings.Repeat("q", 20)} {
		same(t, "name "+n, impl.NameRight(n), true)
	}
	for _, n := range []string{
		"", "_", "_a", "0a", "9", "A", "aB", "aZ", "a b", " a", "a-", "a\n", "a\x00", "a\x80", "aä",
		strings.Repeat("q", 21), strings.Repeat("q", impl.MaxBytes+1),
	} {
		same(t, "no name "+n, impl.NameRight(n), false)
	}
}

// Each byte is held against the words of the document, as the first one and as a further one.
func TestNameRightByteByByte(t *testing.T) {
	for b := range 256 {
		first := strings.Contains("abcdefghijklmnopqrstuvwxyz", string([]byte{byte(b)}))
		further := first || strings.Contains("0123456789_", string([]byte{byte(b)}))
		same(t, "first", impl.NameRight(string([]byte{byte(b)})), first)
		same(t, "second", impl.NameRight(string([]byte{'a', byte(b)})), further)
		same(t, "last", impl.NameRight(strings.Repeat("x", 19)+string([]byte{byte(b)})), further)
	}
}
