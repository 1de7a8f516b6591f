package tests

import (
	"encoding/binary"
	"math"
	"strings"
	"testing"

	"loop.example/g00629/impl"
)

// edgeNums stand on both sides of each step to one byte more.
func edgeNums() []int64 {
	out := []int64{0, 1, -1, math.MaxInt64, math.MaxInt64 - 1, math.MinInt64, math.MinInt64 + 1}
	for bits := 6; bits < 63; bits += 7 {
		step := int64(1) << bits
		out = append(out, step-1, step, step+1, -step-1, -step, -step+1)
	}
	return out
}

func TestPutNumBytes(t *testing.T) {
	for _, c := range []struct {
		n    int64
		want string
	}{
		{0, "\x00"},
		{-1, "\x01"},
		{1, "\x02"},
		{-2, "\x03"},
		{63, "\x7e"},
		{-64, "\x7f"},
		{64, "\x80\x01"},
		{-65, "\x81\x01"},
		{8191, "\xfe\x7f"},
		{8192, "\x80\x80\x01"},
		{math.MaxInt64, "\xfe\xff\xff\xff\xff\xff\xff\xff\xff\x01"},
		{math.MinInt64, "\xff\xff\xff\xff\xff\xff\xff\xff\xff\x01"},
	} {
		same(t, "PutNum", impl.PutNum(c.n), c.want)
	}
}

// Promise 1, of numbers: each comes back, wherever it stands and whatever stands behind it.
func TestNumComesBack(t *testing.T) {
	nums := edgeNums()
	r := dice(1)
	for range 2000 {
		nums = append(nums, int64(r.Uint64())>>r.Intn(64))
	}
	for _, n := range nums {
		put := impl.PutNum(n)
		same(t, "PutNum", put, string(binary.AppendVarint(nil, n)))
		at := int64(len(put))
		same(t, "alone", impl.GetNum(put, 0), impl.NumOut{N: n, At: at})
		same(t, "within", impl.GetNum("\xff\xff"+put+"\xff", 2), impl.NumOut{N: n, At: at + 2})
	}
}

func TestNumsInARow(t *testing.T) {
	nums := edgeNums()
	text := ""
	for _, n := range nums {
		text += impl.PutNum(n)
	}
	at := int64(0)
	for _, n := range nums {
		got := impl.GetNum(text, at)
		same(t, "code", got.Code, impl.OK)
		same(t, "number", got.N, n)
		at = got.At
	}
	same(t, "end", at, int64(len(text)))
}

func TestGetNumFaults(t *testing.T) {
	nine := strings.Repeat("\x80", 9)
	for _, c := range []placeFault{
		{"a place below 0", "\x00", -1, impl.ErrForm},
		{"the least place", "\x00", math.MinInt64, impl.ErrForm},
		{"no text", "", 0, impl.ErrShort},
		{"at the end", "\x00", 1, impl.ErrShort},
		{"behind the end", "\x00", 2, impl.ErrShort},
		{"the greatest place", "\x00", math.MaxInt64, impl.ErrShort},
		{"no last byte", "\x80", 0, impl.ErrShort},
		{"nine bytes, none the last", nine, 0, impl.ErrShort},
		{"two bytes for 0", "\x80\x00", 0, impl.ErrSyntax},
		{"three bytes for 64", "\x80\x81\x00", 0, impl.ErrSyntax},
		{"ten bytes, a needless tenth", nine + "\x00", 0, impl.ErrSyntax},
		{"a tenth byte of 2", nine + "\x02", 0, impl.ErrSyntax},
		{"a tenth byte of 127", nine + "\x7f", 0, impl.ErrSyntax},
		{"a tenth byte that says more", nine + "\x81\x00", 0, impl.ErrSyntax},
		{"too long", strings.Repeat("\x00", impl.MaxBytes+1), 0, impl.ErrSize},
	} {
		same(t, c.what, impl.GetNum(c.text, c.at), impl.NumOut{Code: c.code})
	}
}

// Of two faults the one that is named first is told.
func TestGetNumFaultOrder(t *testing.T) {
	nine := strings.Repeat("\x80", 9)
	tooLong := strings.Repeat("\x80", impl.MaxBytes+1)
	for _, c := range []placeFault{
		{"size ahead of form", tooLong, -1, impl.ErrSize},
		{"size ahead of short", tooLong, impl.MaxBytes + 1, impl.ErrSize},
		{"size ahead of syntax", tooLong, 0, impl.ErrSize},
		{"form ahead of short", "", -1, impl.ErrForm},
		{"form ahead of syntax", "\x80\x00", -1, impl.ErrForm},
		{"ends ahead of the last byte, not of the tenth", nine + "\x80", 0, impl.ErrSyntax},
		{"the same with a tenth byte of 255", nine + "\xff", 0, impl.ErrSyntax},
	} {
		same(t, c.what, impl.GetNum(c.text, c.at), impl.NumOut{Code: c.code})
	}
}

func TestGetNumAtTheLimit(t *testing.T) {
	full := strings.Repeat("\x00", impl.MaxBytes-2) + "\x80\x01"
	same(t, "last number", impl.GetNum(full, impl.MaxBytes-2), impl.NumOut{N: 64, At: impl.MaxBytes})
	same(t, "at the end", impl.GetNum(full, impl.MaxBytes), impl.NumOut{Code: impl.ErrShort})
}

// wantNum is what the document asks of GetNum, told by another reader.
func wantNum(text string, at int64) impl.NumOut {
	if at < 0 {
		return impl.NumOut{Code: impl.ErrForm}
	}
	if at >= int64(len(text)) {
		return impl.NumOut{Code: impl.ErrShort}
	}
	rest := []byte(text[at:])
	n, used := binary.Varint(rest)
	if used == 0 && len(rest) < 10 {
		return impl.NumOut{Code: impl.ErrShort}
	}
	if used <= 0 || used > 1 && rest[used-1] == 0 {
		return impl.NumOut{Code: impl.ErrSyntax}
	}
	return impl.NumOut{N: n, At: at + int64(used)}
}

func TestGetNumOfAnyText(t *testing.T) {
	r := dice(2)
	codes := map[int64]int{}
	for range 20000 {
		text := randomText(r, r.Intn(14))
		if r.Intn(2) == 0 {
			text = strings.Repeat("\xff", r.Intn(10)) + text
		}
		at := int64(r.Intn(8) - 1)
		got := impl.GetNum(text, at)
		same(t, "GetNum", got, wantNum(text, at))
		codes[got.Code]++
	}
	for _, c := range []int64{impl.OK, impl.ErrForm, impl.ErrShort, impl.ErrSyntax} {
		if codes[c] < 100 {
			t.Errorf("code %d was met %d times only", c, codes[c])
		}
	}
}

// Whatever is read as a number was written so: no number has two writings.
func TestNumHasOneWriting(t *testing.T) {
	r := dice(3)
	for range 20000 {
		text := randomText(r, 1+r.Intn(11))
		got := impl.GetNum(text, 0)
		if got.Code == impl.OK {
			same(t, "written again", impl.PutNum(got.N), text[:got.At])
		}
	}
}
