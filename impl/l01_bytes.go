package impl

import (
	"errors"
	"strconv"
)

// Constants, see chapter 1.
const (
	OK         = 0
	ErrForm    = 1
	ErrSize    = 2
	ErrSyntax  = 3
	ErrShort   = 4
	ErrSum     = 5
	ErrNone    = 6
	ErrThere   = 7
	ErrRange   = 8
	ErrFull    = 9
	ErrState   = 10
	ErrPin     = 11
	ErrBlocked = 12
	ErrQuorum  = 13
	MaxBytes   = 8000
	MaxList    = 400
	MaxTime    = 1000000
)

const (
	maxName   = 20
	crcTurn   = 0xEDB88320
	crcBytes  = 4
	maxCrc    = 1<<32 - 1
	tenthByte = 63 // how far up the bits of a number's tenth byte stand
)

// NumOut is a thing of chapter 2.
type NumOut struct {
	N    int64
	At   int64
	Code int64
}

// TextOut is a thing of chapter 2.
type TextOut struct {
	Text string
	At   int64
	Code int64
}

// byteFault is why the bytes at a place do not tell what was asked for.
type byteFault struct {
	code int64
}

// Error makes byteFault an error; the calls tell its code alone.
func (f byteFault) Error() string {
	return "bytes: code " + strconv.FormatInt(f.code, 10)
}

// faultCode is the code of the fault that err holds, OK without any.
func faultCode(err error) int64 {
	var f byteFault
	if errors.As(err, &f) {
		return f.code
	}
	return OK
}

// joined puts texts one behind the other, always into new memory.
func joined(parts ...string) string {
	size := 0
	for _, p := range parts {
		size += len(p)
	}
	all := make([]byte, size)
	at := 0
	for _, p := range parts {
		at += copy(all[at:], p)
	}
	return string(all)
}

// folded is the number from 0 on by which n is written. One is added ahead of
// turning the sign, since the least int64 has no opposite.
func folded(n int64) uint64 {
	if n < 0 {
		return 2*uint64(-(n+1)) + 1
	}
	return 2 * uint64(n)
}

// unfolded is the number of which u is the folded one.
func unfolded(u uint64) int64 {
	half := int64(u / 2)
	if u%2 == 1 {
		return -half - 1
	}
	return half
}

// readNum reads the number at a place, and tells the place behind it.
func readNum(text string, at int64) (int64, int64, error) {
	var u uint64
	var b byte
	shift := uint(0)
	code := int64(ErrForm)
	if at < 0 {
		goto wrong
	}

more:
	code = ErrShort
	if at >= int64(len(text)) {
		goto wrong
	}
	code = ErrSyntax
	b = text[at]
	at++
	// Of 64 bits one is left for the tenth byte, so it is also the last one.
	if shift == tenthByte && b > 1 {
		goto wrong
	}
	u |= uint64(b&127) << shift
	if b < 128 {
		goto last
	}
	shift += 7
	goto more

last:
	// A last byte 0 adds nothing: fewer bytes would have told the number.
	if b == 0 && shift > 0 {
		goto wrong
	}
	return unfolded(u), at, nil

wrong:
	return 0, 0, byteFault{code}
}

// readText reads the length and the text at a place, and tells the place behind.
func readText(text string, at int64) (string, int64, error) {
	size, from, err := readNum(text, at)
	if err != nil {
		return "", 0, err
	}
	if size < 0 || size > MaxBytes {
		return "", 0, byteFault{ErrSyntax}
	}
	if size > int64(len(text))-from {
		return "", 0, byteFault{ErrShort}
	}
	return joined(text[from : from+size]), from + size, nil
}

// byteReader reads what stands one behind the other. Behind the first fault it reads
// zero values alone, so what is read can be looked at once, at the end.
type byteReader struct {
	text string
	at   int64
	err  error
}

func (r *byteReader) num() int64 {
	if r.err != nil {
		return 0
	}
	n, next, err := readNum(r.text, r.at)
	r.at, r.err = next, err
	return n
}

func (r *byteReader) words() string {
	if r.err != nil {
		return ""
	}
	t, next, err := readText(r.text, r.at)
	r.at, r.err = next, err
	return t
}

// isDone tells whether all was read without a fault, and nothing stands behind it.
func (r *byteReader) isDone() bool {
	return r.err == nil && r.at == int64(len(r.text))
}

// PutNum: see chapter 2.
func PutNum(n int64) string {
	var out []byte
	u := folded(n)
	for u >= 128 {
		out = append(out, byte(u%128)+128)
		u /= 128
	}
	return string(append(out, byte(u)))
}

// GetNum: see chapter 2.
func GetNum(text string, at int64) NumOut {
	if len(text) > MaxBytes {
		return NumOut{Code: ErrSize}
	}
	n, next, err := readNum(text, at)
	return NumOut{N: n, At: next, Code: faultCode(err)}
}

// PutText: see chapter 2.
func PutText(t string) string {
	if len(t) > MaxBytes {
		return ""
	}
	return joined(PutNum(int64(len(t))), t)
}

// GetText: see chapter 2.
func GetText(text string, at int64) TextOut {
	if len(text) > MaxBytes {
		return TextOut{Code: ErrSize}
	}
	t, next, err := readText(text, at)
	return TextOut{Text: t, At: next, Code: faultCode(err)}
}

// NameRight: see chapter 2.
func NameRight(t string) bool {
	if len(t) < 1 || len(t) > maxName || !isLetter(t[0]) {
		return false
	}
	for i := 1; i < len(t); i++ {
		if !isLetter(t[i]) && !isDigit(t[i]) && t[i] != '_' {
			return false
		}
	}
	return true
}

func isTime(n int64) bool {
	return n >= 0 && n <= MaxTime
}

func isLetter(b byte) bool {
	return b >= 'a' && b <= 'z'
}

func isDigit(b byte) bool {
	return b >= '0' && b <= '9'
}

// Crc: see chapter 2.
func Crc(text string) int64 {
	// The CRC of no bytes is 0: every text goes on from there.
	return CrcMore(0, text)
}

// CrcMore: see chapter 2.
func CrcMore(crc int64, text string) int64 {
	if len(text) > MaxBytes || crc < 0 || crc > maxCrc {
		return 0
	}
	register := ^uint32(crc)
	for i := 0; i < len(text); i++ {
		register = crcStep(register, text[i])
	}
	return int64(^register)
}

// crcStep takes one byte into the register. Its bits are all put in at once:
// each comes down to the lowest place just when its turn is.
func crcStep(register uint32, b byte) uint32 {
	register ^= uint32(b)
	for range 8 {
		low := register & 1
		register >>= 1
		if low == 1 {
			register ^= crcTurn
		}
	}
	return register
}

// Seal: see chapter 2.
func Seal(text string) string {
	if len(text) > MaxBytes-crcBytes {
		return ""
	}
	crc := Crc(text)
	sum := make([]byte, crcBytes)
	for i := range sum {
		sum[i] = byte(crc)
		crc >>= 8
	}
	return joined(text, string(sum))
}

// Unseal: see chapter 2.
func Unseal(text string) TextOut {
	if len(text) > MaxBytes {
		return TextOut{Code: ErrSize}
	}
	if len(text) < crcBytes {
		return TextOut{Code: ErrShort}
	}
	body := text[:len(text)-crcBytes]
	if Seal(body) != text {
		return TextOut{Code: ErrSum}
	}
	return TextOut{Text: joined(body)}
}
