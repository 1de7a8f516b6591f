package tests

import (
	"slices"
	"strings"
	"testing"
	"unsafe"

	"loop.example/g00629/impl"
)

func share(index int64, data string) impl.Share {
	return impl.Share{Index: index, Data: data}
}

// eachOrder calls with every choice of so many of the shares, in whatever order.
func eachOrder(shares []impl.Share, many int, call func([]impl.Share)) {
	var chosen []impl.Share
	taken := make([]bool, len(shares))
	var choose func()
	choose = func() {
		if len(chosen) == many {
			call(slices.Clone(chosen))
			return
		}
		for n, s := range shares {
			if taken[n] {
				continue
			}
			taken[n] = true
			chosen = append(chosen, s)
			choose()
			chosen = chosen[:len(chosen)-1]
			taken[n] = false
		}
	}
	choose()
}

// secretAsked is what the first need of the shares hide: the line through them is found
// from share to share, in another way than by weights. With b the line through the
// shares ahead, and z the product of all (x + index) of these, each further share adds
// to b so many times z that b meets it too.
func secretAsked(need int64, l []impl.Share) string {
	out := make([]byte, len(l[0].Data))
	for i := range out {
		line, zero := []int64{0}, []int64{1}
		for _, s := range l[:need] {
			lacks := int64(s.Data[i]) ^ valueAt(line, s.Index)
			times := productAsked(lacks, quotientOfOne(valueAt(zero, s.Index)))
			line = sumOfLines(line, timesLine(zero, times))
			zero = sumOfLines(append([]int64{0}, zero...), timesLine(zero, s.Index))
		}
		out[i] = byte(valueAt(line, 0))
	}
	return string(out)
}

func valueAt(line []int64, x int64) int64 {
	sum := int64(0)
	for _, c := range slices.Backward(line) {
		sum = productAsked(sum, x) ^ c
	}
	return sum
}

func quotientOfOne(a int64) int64 {
	return elementPowers[(255-elementLogs[a])%255]
}

func timesLine(line []int64, by int64) []int64 {
	var out []int64
	for _, c := range line {
		out = append(out, productAsked(c, by))
	}
	return out
}

func sumOfLines(a, b []int64) []int64 {
	out := make([]int64, max(len(a), len(b)))
	for n := range out {
		if n < len(a) {
			out[n] ^= a[n]
		}
		if n < len(b) {
			out[n] ^= b[n]
		}
	}
	return out
}

// Promise 8: every choice of need Shares, in whatever order, joins to the secret; with
// fewer there is none, with more of them the further ones do not count.
func TestJoinEveryChoice(t *testing.T) {
	for _, secret := range []string{"s", "\x00", "ab", long(16), strings.Repeat("\xff", 16), "\x00\x00\x00"} {
		for cards := int64(1); cards <= 6; cards++ {
			for need := int64(1); need <= cards; need++ {
				shares := impl.Split(secret, need, cards, "salt")
				for many := 1; many <= int(cards); many++ {
					want := secret
					if many < int(need) {
						want = ""
					}
					eachOrder(shares, many, func(l []impl.Share) {
						if got := impl.Join(need, l); got != want {
							t.Errorf("Join %d of %d, of %+v: got %q, want %q", need, cards, l, got, want)
						}
					})
				}
			}
		}
	}
}

func TestJoinAnySecret(t *testing.T) {
	r := dice(63)
	for range 3000 {
		secret, salt := randomText(r, 1+r.Intn(16)), randomText(r, 1+r.Intn(64))
		cards := 1 + r.Int63n(6)
		need := 1 + r.Int63n(cards)
		shares := impl.Split(secret, need, cards, salt)
		r.Shuffle(len(shares), func(a, b int) { shares[a], shares[b] = shares[b], shares[a] })
		same(t, "all of them", impl.Join(need, shares), secret)
		same(t, "as many as needed", impl.Join(need, shares[:need]), secret)
		same(t, "one fewer", impl.Join(need, shares[:need-1]), "")
		same(t, "asked for more", impl.Join(cards, shares), secret)
	}
}

// Promise 8, and from no fewer: whatever need less 1 of the Shares are, some last one
// makes each byte of them, so they leave every secret open.
func TestJoinLeavesAllOpen(t *testing.T) {
	for need := int64(2); need <= 6; need++ {
		shares := impl.Split("s", need, 6, "salt")
		eachOrder(shares, int(need)-1, func(l []impl.Share) {
			last := int64(1)
			for slices.ContainsFunc(l, func(s impl.Share) bool { return s.Index == last }) {
				last++
			}
			var seen [256]bool
			for b := range 256 {
				secret := impl.Join(need, append(slices.Clone(l), impl.Share{Index: last, Data: string([]byte{byte(b)})}))
				same(t, "one byte", len(secret), 1)
				same(t, "twice", seen[secret[0]], false)
				seen[secret[0]] = true
			}
		})
	}
	fewer := impl.Split("master-secret", 3, 5, "salt")
	eachOrder(fewer, 2, func(l []impl.Share) {
		same(t, "joined by fewer", impl.Join(2, l) == "master-secret", false)
		same(t, "joined by one", impl.Join(1, l), l[0].Data)
	})
}

// Shares of no secret that was ever split are joined all the same.
func TestJoinOfAnyShares(t *testing.T) {
	r := dice(64)
	for range 1000 {
		size := 1 + r.Intn(16)
		var l []impl.Share
		for _, n := range r.Perm(6)[:1+r.Intn(6)] {
			l = append(l, impl.Share{Index: int64(n) + 1, Data: randomText(r, size)})
		}
		need := 1 + r.Int63n(int64(len(l)))
		same(t, "Join", impl.Join(need, l), secretAsked(need, l))
	}
}

func TestJoinKnown(t *testing.T) {
	for _, c := range []struct {
		need int64
		l    []impl.Share
		want string
	}{
		{1, []impl.Share{share(6, "ab")}, "ab"},
		{1, []impl.Share{share(6, "ab"), share(1, "cd")}, "ab"},
		{2, []impl.Share{share(1, "\x1b\x46"), share(2, "\x95\x2a")}, "ab"},
		{2, []impl.Share{share(3, "\xef\x0e"), share(1, "\x1b\x46")}, "ab"},
		{2, []impl.Share{share(3, "\xef\x0e"), share(1, "\x1b\x46"), share(2, "zz")}, "ab"},
		{6, []impl.Share{share(1, "\xcb"), share(2, "\xee"), share(3, "\x06"), share(4, "\x41"), share(5, "\xb7"), share(6, "\x59")}, "\x00"},
		{6, []impl.Share{share(6, "\x59"), share(5, "\xb7"), share(4, "\x41"), share(3, "\x06"), share(2, "\xee"), share(1, "\xcb")}, "\x00"},
	} {
		same(t, "Join", impl.Join(c.need, c.l), c.want)
	}
}

func TestJoinNeed(t *testing.T) {
	shares := impl.Split("secret", 3, 6, "salt")
	for _, need := range append(noNumbers(), 7, 8, 400, 401) {
		for many := 0; many <= 6; many++ {
			same(t, "no need", impl.Join(need, shares[:many]), "")
		}
		same(t, "no need and no list", impl.Join(need, nil), "")
		same(t, "no need and a wrong one", impl.Join(need, []impl.Share{{}}), "")
	}
	for need := int64(1); need <= 6; need++ {
		same(t, "no list", impl.Join(need, nil), "")
		same(t, "an empty list", impl.Join(need, []impl.Share{}), "")
		for many := 1; many <= 6; many++ {
			want := ""
			if many >= int(need) {
				want = secretAsked(need, shares[:many])
			}
			same(t, "fewer, as many, more", impl.Join(need, shares[:many]), want)
		}
	}
}

// One Share at any place, also behind the first need of them, spoils the list.
func TestJoinOneWrong(t *testing.T) {
	right := impl.Split("secret", 2, 6, "salt")
	data := right[0].Data
	wrong := []impl.Share{{}, {Data: data}, {Index: 1}, {Index: -1, Data: data}, {Index: 7, Data: data}, {Index: 1<<32 + 1, Data: data},
		{Index: 1, Data: long(17)}, {Index: 1, Data: long(impl.MaxBytes + 1)}, {Index: 0, Data: long(17)},
		{Index: 1, Data: data[:5]}, {Index: 1, Data: data + "x"}, {Index: 1, Data: long(16)}, {Index: 1, Data: "x"}}
	for need := int64(1); need <= 6; need++ {
		for size := 1; size <= 6; size++ {
			for at := range size {
				for _, w := range wrong {
					// The Index 1 stands nowhere else, so only what is wrong by itself spoils.
					l := slices.Clone(right[1:size])
					l = slices.Insert(l, at, w)
					want := ""
					if size == 1 && need == 1 && impl.ShareRight(w) {
						want = w.Data
					}
					same(t, "one that is wrong", impl.Join(need, l), want)
				}
			}
		}
	}
}

func TestJoinTwoOfOneIndex(t *testing.T) {
	right := impl.Split("secret", 2, 6, "salt")
	for need := int64(1); need <= 6; need++ {
		for size := 2; size <= 6; size++ {
			for first := range size {
				for second := range size {
					if first == second {
						continue
					}
					l := slices.Clone(right[:size])
					l[first] = l[second]
					same(t, "alike", impl.Join(need, l), "")
					l[first].Data = "SECRET"
					same(t, "of one Index, of unlike Data", impl.Join(need, l), "")
					same(t, "and one more", impl.Join(need, append(l, l[second])), "")
				}
			}
		}
	}
}

func TestJoinLengths(t *testing.T) {
	for a := 1; a <= 17; a++ {
		for b := 1; b <= 17; b++ {
			l := []impl.Share{share(1, long(a)), share(2, long(b))}
			for need := int64(1); need <= 3; need++ {
				want := ""
				if a == b && a <= 16 && need <= 2 {
					want = secretAsked(need, l)
				}
				same(t, "of two lengths", impl.Join(need, l), want)
			}
		}
	}
}

// As many items as a list may have, and one more: among more than MaxCards of them two
// are of one Index, or one is not right.
func TestJoinLongLists(t *testing.T) {
	for _, size := range []int{7, 8, impl.MaxList - 1, impl.MaxList, impl.MaxList + 1, 2 * impl.MaxList} {
		var turned, rising []impl.Share
		for n := range size {
			turned = append(turned, impl.Share{Index: int64(n%6) + 1, Data: "ab"})
			rising = append(rising, impl.Share{Index: int64(n) + 1, Data: "ab"})
		}
		for need := int64(0); need <= 7; need++ {
			same(t, "turned", impl.Join(need, turned), "")
			same(t, "rising", impl.Join(need, rising), "")
			same(t, "zero ones", impl.Join(need, make([]impl.Share, size)), "")
		}
	}
}

// What is handed in stays as it is, also where the list has room for more.
func TestJoinMemory(t *testing.T) {
	shares := impl.Split("secret", 3, 6, "salt")
	kept := slices.Clone(shares)
	for need := int64(-1); need <= 7; need++ {
		for many := 0; many <= 6; many++ {
			impl.Join(need, shares[:many])
			sameShares(t, "the list, and what stands behind it", shares, kept)
		}
	}
	one := []impl.Share{{Index: 1, Data: strings.Clone("secret")}}
	joined := impl.Join(1, one)
	same(t, "joined of one", joined, "secret")
	same(t, "shared", unsafe.StringData(joined) == unsafe.StringData(one[0].Data), false)
	same(t, "again", impl.Join(3, shares), "secret")
}
