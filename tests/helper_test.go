package tests

import (
	"math/rand"
	"strings"
	"testing"
)

// same holds two comparable answers against each other, as wholes.
func same[T comparable](t *testing.T, what string, got, want T) {
	t.Helper()
	if got != want {
		t.Errorf("%s: got %+v, want %+v", what, got, want)
	}
}

// placeFault is the code that reading at a place of a text must tell.
type placeFault struct {
	what string
	text string
	at   int64
	code int64
}

// long is a text of n bytes that are not all alike.
func long(n int) string {
	var b strings.Builder
	for i := range n {
		b.WriteByte(byte(i*7 + i/256))
	}
	return b.String()
}

// dice is a source that goes the same way each run, so that a fault can be met again.
func dice(seed int64) *rand.Rand {
	return rand.New(rand.NewSource(seed))
}

// randomText has n bytes, many of them near those at which a number ends.
func randomText(r *rand.Rand, n int) string {
	b := make([]byte, n)
	for i := range b {
		switch r.Intn(4) {
		case 0:
			b[i] = byte(r.Intn(3))
		case 1:
			b[i] = byte(126 + r.Intn(4))
		default:
			b[i] = byte(r.Intn(256))
		}
	}
	return string(b)
}
