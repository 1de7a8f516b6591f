package tests

import (
	"math"
	"testing"

	"loop.example/g00629/impl"
)

// noElements are numbers of which neither GfMul nor GfInv tells anything; the lowest
// bits of some of them are an element's.
var noElements = []int64{-1, -2, -255, -256, 256, 257, 285, 511, 512, 1 << 16, 1<<32 + 1, 1<<63 - 255, math.MaxInt64, math.MinInt64, math.MinInt64 + 1}

// doubled is the product of an element and 2.
func doubled(n int64) int64 {
	if n < 128 {
		return 2 * n
	}
	return 2*n - 256 ^ 29
}

// logTable tells for each element above 0 how often 1 must be doubled to make it, and
// the other way round.
func logTable() (logs [256]int, powers [255]int64) {
	n := int64(1)
	for i := range powers {
		logs[n], powers[i] = i, n
		n = doubled(n)
	}
	return logs, powers
}

var elementLogs, elementPowers = logTable()

// productAsked is what GfMul must answer of two elements, by sums of their logarithms.
func productAsked(a, b int64) int64 {
	if a == 0 || b == 0 {
		return 0
	}
	return elementPowers[(elementLogs[a]+elementLogs[b])%255]
}

func TestLogTable(t *testing.T) {
	seen := map[int64]bool{}
	for i, n := range elementPowers {
		same(t, "an element", isWithin(1, n, 255), true)
		same(t, "twice", seen[n], false)
		same(t, "logs", elementLogs[n], i)
		seen[n] = true
	}
	same(t, "doubled to the end", doubled(elementPowers[254]), 1)
}

// Promise 8: each product of two elements, against one reckoned in another way.
func TestGfMulOfAll(t *testing.T) {
	for a := int64(0); a <= 255; a++ {
		for b := int64(0); b <= 255; b++ {
			if got, want := impl.GfMul(a, b), productAsked(a, b); got != want {
				t.Errorf("GfMul of %d, %d: got %d, want %d", a, b, got, want)
			}
		}
	}
}

func TestGfMulKnown(t *testing.T) {
	for _, c := range []struct{ a, b, want int64 }{
		{0, 0, 0}, {0, 255, 0}, {255, 0, 0}, {1, 1, 1}, {1, 255, 255}, {255, 1, 255},
		{2, 128, 29}, {128, 2, 29}, {3, 7, 9}, {16, 16, 29}, {29, 29, 76}, {83, 202, 143},
		{128, 128, 19}, {142, 2, 1}, {255, 255, 226},
	} {
		same(t, "GfMul", impl.GfMul(c.a, c.b), c.want)
	}
}

// A product goes over sums, and does not hang on which two are multiplied first.
func TestGfMulLaws(t *testing.T) {
	r := dice(61)
	for range 20000 {
		a, b, c := r.Int63n(256), r.Int63n(256), r.Int63n(256)
		same(t, "over a sum", impl.GfMul(a, b^c), impl.GfMul(a, b)^impl.GfMul(a, c))
		same(t, "of three", impl.GfMul(a, impl.GfMul(b, c)), impl.GfMul(impl.GfMul(a, b), c))
	}
}

func TestGfMulOfNoElements(t *testing.T) {
	for _, n := range noElements {
		for e := int64(0); e <= 255; e++ {
			same(t, "GfMul of none and one", impl.GfMul(n, e), 0)
			same(t, "GfMul of one and none", impl.GfMul(e, n), 0)
		}
		for _, m := range noElements {
			same(t, "GfMul of none", impl.GfMul(n, m), 0)
		}
	}
}

// Promise 8: each element above 0 times its GfInv makes 1.
func TestGfInvOfAll(t *testing.T) {
	seen := map[int64]bool{}
	for a := int64(1); a <= 255; a++ {
		inverse := impl.GfInv(a)
		same(t, "an element above 0", isWithin(1, inverse, 255), true)
		same(t, "twice", seen[inverse], false)
		same(t, "makes 1", impl.GfMul(a, inverse), 1)
		same(t, "makes 1, turned", impl.GfMul(inverse, a), 1)
		same(t, "makes 1, in another way", productAsked(a, inverse), 1)
		same(t, "and back", impl.GfInv(inverse), a)
		seen[inverse] = true
	}
}

func TestGfInvKnown(t *testing.T) {
	for _, c := range []struct{ a, want int64 }{
		{1, 1}, {2, 142}, {3, 244}, {4, 71}, {5, 167}, {6, 122}, {7, 186}, {128, 27}, {254, 126}, {255, 253},
	} {
		same(t, "GfInv", impl.GfInv(c.a), c.want)
	}
}

func TestGfInvOfNone(t *testing.T) {
	same(t, "GfInv of 0", impl.GfInv(0), 0)
	for _, n := range noElements {
		same(t, "GfInv of none", impl.GfInv(n), 0)
	}
}
