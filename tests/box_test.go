package tests

import (
	"fmt"
	"math"
	"regexp"
	"slices"
	"strings"
	"testing"

	"loop.example/g00629/impl"
)

var aName = regexp.MustCompile(`\A[a-z][a-z0-9_]{0,19}\z`)

const boxSalt, boxPin = "salt", "1234"

// idsIn are the numbers of the cards that are in.
func idsIn(b impl.Box) []int64 {
	ids := []int64{}
	for _, s := range b.In {
		ids = append(ids, s.Index)
	}
	return ids
}

// areNumbersAsked: a list from which the numbers 1 to most are picked, in their order.
func areNumbersAsked(list []int64, most int64) bool {
	at := 0
	for n := int64(1); n <= most; n++ {
		if at < len(list) && list[at] == n {
			at++
		}
	}
	return at == len(list)
}

func areKeysAsked(keys []impl.Key) bool {
	seen := map[string]bool{}
	for _, k := range keys {
		if !aName.MatchString(k.Name) || !isWithin(1, k.Public, 10006) || seen[k.Name] {
			return false
		}
		seen[k.Name] = true
	}
	byName := func(a, b impl.Key) int { return strings.Compare(a.Name, b.Name) }
	return len(keys) <= 4 && slices.IsSortedFunc(keys, byName)
}

func areInAsked(b impl.Box) bool {
	for _, s := range b.In {
		if len(s.Data) < 1 || len(s.Data) > 16 || len(s.Data) != len(b.In[0].Data) || slices.Contains(b.Revoked, s.Index) {
			return false
		}
	}
	if !areNumbersAsked(idsIn(b), b.Cards) {
		return false
	}
	return len(b.In) < int(b.Need) || checkAsked(secretAsked(b.Need, b.In)) == b.Check
}

func isABox(b impl.Box) bool {
	return isWithin(1, b.Cards, 6) && isWithin(1, b.Need, b.Cards) && isWithin(1, b.Epoch, 1000000) && len(b.Check) == 32 &&
		areKeysAsked(b.Keys) && areNumbersAsked(b.Revoked, b.Cards) && isAnAudit(b.Audit) && areInAsked(b)
}

func checkAsked(master string) string {
	return libraryDigest("check" + master)
}

// nameSecret is the secret of a name, by the library.
func nameSecret(master, name string) int64 {
	return hashAsked(libraryMac(master, name), 5002) + 1
}

func boxKeyAsked(master, name string) impl.Key {
	return impl.Key{Name: name, Public: libraryPower(4, nameSecret(master, name), 10007)}
}

// dealtBox is a box of the first Epoch, of "master" or another one, with those cards in.
func dealtBox(master string, need, cards int64, in ...int64) impl.Box {
	b := impl.Box{Need: need, Cards: cards, Epoch: 1, Check: checkAsked(master), Audit: auditAsked(impl.Line{Kind: 1})}
	shares := sharesAsked(master, need, cards, boxSalt)
	for _, id := range in {
		b.In = append(b.In, shares[id-1])
	}
	return b
}

// ownABox is b in memory of its own, also the bytes of its texts.
func ownABox(b impl.Box) impl.Box {
	own := b
	own.Check, own.Keys, own.In = strings.Clone(b.Check), nil, nil
	for _, k := range b.Keys {
		own.Keys = append(own.Keys, impl.Key{Name: strings.Clone(k.Name), Public: k.Public})
	}
	own.Revoked = append([]int64(nil), b.Revoked...)
	own.Audit = ownAudit(b.Audit)
	for _, s := range b.In {
		own.In = append(own.In, share(s.Index, strings.Clone(s.Data)))
	}
	return own
}

func equalBoxes(a, b impl.Box) bool {
	return a.Need == b.Need && a.Cards == b.Cards && a.Epoch == b.Epoch && a.Check == b.Check && slices.Equal(a.Keys, b.Keys) &&
		slices.Equal(a.Revoked, b.Revoked) && equalAudits(a.Audit, b.Audit) && slices.Equal(a.In, b.In)
}

func sameBoxOut(t *testing.T, what string, got, want impl.BoxOut) {
	t.Helper()
	if got.Code != want.Code || !equalBoxes(got.Box, want.Box) || !slices.Equal(got.Cards, want.Cards) {
		t.Errorf("%s: got %+v, want %+v", what, got, want)
	}
}

func sameSignOut(t *testing.T, what string, got, want impl.SignOut) {
	t.Helper()
	if got.Code != want.Code || !equalBoxes(got.Box, want.Box) || got.Sig != want.Sig {
		t.Errorf("%s: got %+v, want %+v", what, got, want)
	}
}

// firstIDs are the numbers 1 to n, lastIDs the n numbers up to cards.
func firstIDs(n int64) []int64 {
	return lastIDs(n, n)
}

func lastIDs(n, cards int64) []int64 {
	var ids []int64
	for id := cards - n + 1; id <= cards; id++ {
		ids = append(ids, id)
	}
	return ids
}

// eachSize calls with each number of cards, and each of those that are needed.
func eachSize(call func(need, cards int64)) {
	for cards := int64(1); cards <= 6; cards++ {
		for need := int64(1); need <= cards; need++ {
			call(need, cards)
		}
	}
}

// baseBoxes have four cards, of which two are needed: none in, one, two, three, all.
func baseBoxes() []impl.Box {
	return []impl.Box{dealtBox("master", 2, 4), dealtBox("master", 2, 4, 3), dealtBox("master", 2, 4, 1, 3),
		dealtBox("master", 2, 4, 1, 2, 3), dealtBox("master", 2, 4, 1, 2, 3, 4)}
}

// changed are the boxes with each of the changes, one at a time.
func changed(boxes []impl.Box, changes ...func(b *impl.Box)) []impl.Box {
	var all []impl.Box
	for _, b := range boxes {
		for _, change := range changes {
			own := ownABox(b)
			change(&own)
			all = append(all, own)
		}
	}
	return all
}

func withKeys(keys ...impl.Key) func(b *impl.Box) {
	return func(b *impl.Box) { b.Keys = slices.Clone(keys) }
}

func withRevoked(ids ...int64) func(b *impl.Box) {
	return func(b *impl.Box) { b.Revoked = slices.Clone(ids) }
}

func withIn(in ...impl.Share) func(b *impl.Box) {
	return func(b *impl.Box) { b.In = slices.Clone(in) }
}

func withAudit(a impl.Audit) func(b *impl.Box) {
	return func(b *impl.Box) { b.Audit = ownAudit(a) }
}

func key(name string, public int64) impl.Key {
	return impl.Key{Name: name, Public: public}
}

func someKeys(n int) []impl.Key {
	var keys []impl.Key
	for i := range n {
		keys = append(keys, key(fmt.Sprintf("k%03d", i), int64(1+i%10006)))
	}
	return keys
}

// sizedBoxes are of every size, with none in, one fewer than are needed, as many, and all.
func sizedBoxes() []impl.Box {
	var all []impl.Box
	eachSize(func(need, cards int64) {
		for _, n := range []int64{0, need - 1, need, cards} {
			all = append(all, dealtBox("master", need, cards, firstIDs(n)...), dealtBox("master", need, cards, lastIDs(n, cards)...))
		}
	})
	return all
}

// rightBoxes are of every edge that a box may have.
func rightBoxes() []impl.Box {
	all := append(sizedBoxes(), changed(baseBoxes(),
		func(b *impl.Box) { b.Epoch = 2 }, func(b *impl.Box) { b.Epoch = 999999 }, func(b *impl.Box) { b.Epoch = 1000000 },
		withKeys(key("a", 1)), withKeys(key("k1", 10006), key("k2", 10006)), withKeys(someKeys(3)...), withKeys(someKeys(4)...),
		withKeys(key("a", 5), key("a0", 5), key("a_", 5), key("ab", 4)), withKeys(key(strings.Repeat("a", 20), 2), key(strings.Repeat("z", 20), 1)),
		withKeys(boxKeyAsked("master", "k1")), withAudit(impl.Audit{}), withAudit(someAudit(1)), withAudit(someAudit(11)), withAudit(someAudit(12)),
		func(b *impl.Box) { b.Keys, b.Revoked = []impl.Key{}, []int64{} },
	)...)
	none := []impl.Box{dealtBox("master", 2, 4)}
	all = append(all, changed(none, withRevoked(1), withRevoked(4), withRevoked(1, 4), withRevoked(2, 3, 4), withRevoked(1, 2, 3, 4),
		withIn(share(1, "x")), withIn(share(4, long(16))), withIn([]impl.Share{}...), func(b *impl.Box) { b.Check = strings.Repeat("\x00", 32) },
		func(b *impl.Box) { b.Check = long(32) })...)
	all = append(all, changed(baseBoxes()[1:3], withRevoked(2), withRevoked(4), withRevoked(2, 4))...)
	for size := 1; size <= 16; size++ {
		all = append(all, dealtBox(long(size), 3, 5, 1, 3, 5), dealtBox(strings.Repeat("\x00", size), 1, 2, 2))
	}
	return append(all, unheardBoxes()...)
}

// unheardBoxes have more in than are needed, of which all behind these are wrong: they are
// not among those whose Join is asked for.
func unheardBoxes() []impl.Box {
	last, two := dealtBox("master", 2, 4, 1, 3, 4), dealtBox("master", 2, 4, 1, 2, 3, 4)
	last.In[2].Data = turned(last.In[2].Data, 5, 1)
	two.In[2].Data, two.In[3].Data = "abcdef", "ghijkl"
	first := dealtBox("master", 1, 3, 1, 2, 3)
	first.In[1].Data, first.In[2].Data = "masteR", "Master"
	return []impl.Box{last, two, first}
}

// wrongBoxes are right ones but for one thing, and some for more.
func wrongBoxes() []impl.Box {
	var changes []func(b *impl.Box)
	add := func(more ...func(b *impl.Box)) { changes = append(changes, more...) }
	for _, n := range append(noNumbers(), 7, 8) {
		add(func(b *impl.Box) { b.Cards = n }, func(b *impl.Box) { b.Need = n }, func(b *impl.Box) { b.Cards, b.Need = n, n })
	}
	for _, n := range []int64{5, 6} {
		add(func(b *impl.Box) { b.Need = n })
	}
	for _, n := range []int64{0, -1, 1000001, 1000002, 1<<32 + 1, math.MinInt64, math.MaxInt64} {
		add(func(b *impl.Box) { b.Epoch = n })
		add(withKeys(key("a", 1), key("k1", -n*n)), withKeys(key("k1", n), key("z", 1)))
	}
	for _, n := range []int{0, 1, 16, 31, 33, 64, 256 + 32, impl.MaxBytes, impl.MaxBytes + 1} {
		add(func(b *impl.Box) { b.Check = long(n) }, func(b *impl.Box) { b.Check = (b.Check + b.Check + long(n))[64-min(n, 31) : 64] })
	}
	for _, name := range append(noNames(), "") {
		add(withKeys(key(name, 1)), withKeys(key("a", 1), key(name, 1)), withKeys(key(name, 1), key("zz", 1)))
	}
	for _, public := range []int64{0, -1, -10006, 10007, 10008, 20000, 1<<32 + 1, math.MinInt64, math.MaxInt64} {
		add(withKeys(key("a", public)), withKeys(key("a", 1), key("b", public)), withKeys(key("a", public), key("b", 1)))
	}
	for _, n := range []int{5, 6, 256 + 4, impl.MaxList, impl.MaxList + 1} {
		add(withKeys(someKeys(n)...))
	}
	add(withKeys(key("a", 1), key("a", 1)), withKeys(key("a", 1), key("a", 2)), withKeys(key("b", 1), key("a", 1)),
		withKeys(key("ab", 1), key("a", 1)), withKeys(key("a_", 1), key("a0", 1)), withKeys(key("a", 1), key("c", 1), key("b", 1)),
		withKeys(key("a", 1), key("b", 1), key("b", 1)), withKeys(key("b", 1), key("a", 1), key("c", 1), key("d", 1)),
		withKeys(key("a", 1), key("b", 1), key("d", 1), key("c", 1)), withKeys(impl.Key{}))
	for _, ids := range append(noCardLists(), []int64{5}, []int64{6}, []int64{1, 5}, []int64{1, 2, 3, 4, 5}) {
		add(withRevoked(ids...))
	}
	add(withAudit(someAudit(13)), withAudit(auditAsked(impl.Line{Kind: 6})), withAudit(impl.Audit{Lines: someLines(1)}),
		withAudit(impl.Audit{Links: []string{long(32)}}), func(b *impl.Box) { b.Audit.Links[0] = turned(b.Audit.Links[0], 31, 1) },
		func(b *impl.Box) { b.Audit.Lines[0].Kind = 2 }, withAudit(someAudit(impl.MaxList+1)))
	// Where none are needed the empty text is what they know together: that is no master either.
	add(func(b *impl.Box) { b.Need, b.Check = 0, checkAsked("") }, func(b *impl.Box) { b.Need, b.Check = -1, checkAsked("") })
	all := changed(baseBoxes(), changes...)
	all = append(all, impl.Box{}, impl.Box{Need: 1, Cards: 1, Epoch: 1})
	return append(all, wronglyIn()...)
}

// wronglyIn are boxes that are right but for what is in.
func wronglyIn() []impl.Box {
	s := sharesAsked("master", 2, 4, boxSalt)
	five := sharesAsked("master", 2, 5, boxSalt)[4]
	short := sharesAsked("maste", 2, 4, boxSalt)
	other := sharesAsked("Master", 2, 4, boxSalt)
	salted := sharesAsked("master", 2, 4, "tlas")
	three := sharesAsked("master", 3, 4, boxSalt)
	many := make([]impl.Share, impl.MaxList+1)
	for n := range many {
		many[n] = share(int64(n+1), "master")
	}
	all := changed([]impl.Box{dealtBox("master", 2, 4)}, withIn(s[1], s[0]), withIn(s[0], s[2], s[1]), withIn(s[1], s[0], s[2]),
		withIn(s[2], s[2]), withIn(s[0], s[2], s[2]), withIn(s[0], s[0], s[2]), withIn(five), withIn(s[0], five), withIn(s[0], s[1], five),
		withIn(share(0, "x")), withIn(share(-1, "x")), withIn(share(7, "x")), withIn(share(1<<32+1, "x")), withIn(share(math.MinInt64, "x")),
		withIn(share(1, "")), withIn(share(1, long(17))), withIn(share(4, long(impl.MaxBytes+1))), withIn(impl.Share{}),
		withIn(share(1, ""), share(2, "")), withIn(share(1, long(17)), share(2, long(17))), withIn(many...), withIn(many[:5]...), withIn(many[:6]...),
		withIn(s[0], short[1]), withIn(short[0], s[1]), withIn(s[0], s[1], short[2]), withIn(s[0], s[1], share(3, s[2].Data+"x")), withIn(short[0], short[1]),
		withIn(other[0], other[1]), withIn(s[0], other[1]), withIn(salted[0], s[1]), withIn(three[0], three[1]), withIn(three...),
		withIn(share(1, "master"), share(2, "masteR")), withIn(other[0], s[1], s[2]), withIn(s[0], other[1], s[2], s[3]), withIn(s[0], s[1], share(3, "")),
		withIn(s[0], share(2, s[0].Data)), withIn(share(1, s[1].Data), share(2, s[0].Data)), withIn(s[0], s[1], s[2], share(5, s[3].Data)))
	// Too few to be joined, and of unlike lengths.
	all = append(all, changed([]impl.Box{dealtBox("master", 3, 4)}, withIn(s[0], short[1]), withIn(short[0], s[3]), withIn(share(1, "x"), share(2, "xy")),
		withIn(share(2, long(16)), share(4, long(15))))...)
	for _, ids := range [][]int64{{1}, {3}, {4}, {1, 3}, {2, 3, 4}, {1, 2, 3, 4}} {
		all = append(all, changed(baseBoxes()[4:], withRevoked(ids...))...)
	}
	all = append(all, changed([]impl.Box{dealtBox("master", 2, 4, 3)}, withRevoked(3), withRevoked(1, 2, 3, 4))...)
	for at := range 6 {
		for by := range 8 {
			b := dealtBox("master", 2, 4, 2, 3)
			b.In[by%2].Data = turned(b.In[by%2].Data, at, 1<<by)
			all = append(all, b)
			b = dealtBox("master", 2, 4, 2, 3, 4)
			b.In[by%2].Data = turned(b.In[by%2].Data, at, 1<<by)
			all = append(all, b)
		}
	}
	for at := range 32 {
		b := dealtBox("master", 2, 4, 2, 3)
		b.Check = turned(b.Check, at, 1)
		all = append(all, b)
	}
	bare, listed := dealtBox("master", 1, 1, 1), dealtBox("master", 2, 2, 1, 2)
	bare.Check, listed.Check = libraryDigest("master"), libraryDigest("check "+"master")
	return append(all, bare, listed)
}

func TestBoxConstants(t *testing.T) {
	same(t, "MaxKeys", impl.MaxKeys, 4)
}

func TestBoxRight(t *testing.T) {
	for _, b := range rightBoxes() {
		if !impl.BoxRight(b) || !isABox(b) {
			t.Errorf("not right: %+v", b)
		}
	}
	for _, b := range wrongBoxes() {
		if impl.BoxRight(b) || isABox(b) {
			t.Errorf("right: %+v", b)
		}
	}
}

// Each number of a field, one by one, in a box without any cards in.
func TestBoxRightNumbers(t *testing.T) {
	for cards := int64(-2); cards <= 9; cards++ {
		for need := int64(-2); need <= 9; need++ {
			b := impl.Box{Need: need, Cards: cards, Epoch: 1, Check: long(32)}
			same(t, fmt.Sprintf("%d of %d", need, cards), impl.BoxRight(b), 1 <= need && need <= cards && cards <= 6)
		}
		for id := int64(-2); id <= 9; id++ {
			b := impl.Box{Need: 1, Cards: cards, Epoch: 1, Check: long(32), Revoked: []int64{id}}
			same(t, fmt.Sprintf("%d Revoked of %d", id, cards), impl.BoxRight(b), 1 <= cards && cards <= 6 && 1 <= id && id <= cards)
			b = impl.Box{Need: 2, Cards: cards, Epoch: 1, Check: long(32), In: []impl.Share{share(id, "x")}}
			same(t, fmt.Sprintf("%d in of %d", id, cards), impl.BoxRight(b), 2 <= cards && cards <= 6 && 1 <= id && id <= cards)
		}
	}
	for _, epoch := range append(edgesOf(1000000), 10, 1000) {
		b := impl.Box{Need: 1, Cards: 1, Epoch: epoch, Check: long(32)}
		same(t, "Epoch", impl.BoxRight(b), 1 <= epoch && epoch <= 1000000)
	}
	for size := range 70 {
		same(t, "Check", impl.BoxRight(impl.Box{Need: 1, Cards: 1, Epoch: 1, Check: long(size)}), size == 32)
	}
	for n := range 9 {
		same(t, "Keys", impl.BoxRight(impl.Box{Need: 1, Cards: 1, Epoch: 1, Check: long(32), Keys: someKeys(n)}), n <= 4)
	}
}

// Each list of a few numbers as those that are Revoked, and as those that are in.
func TestBoxRightLists(t *testing.T) {
	var lists [][]int64
	for a := int64(0); a <= 4; a++ {
		for b := int64(0); b <= 4; b++ {
			for c := int64(0); c <= 4; c++ {
				lists = append(lists, []int64{a, b, c})
			}
		}
	}
	for _, list := range lists {
		b := impl.Box{Need: 3, Cards: 3, Epoch: 1, Check: checkAsked("m"), Revoked: list}
		same(t, fmt.Sprint("Revoked ", list), impl.BoxRight(b), slices.Equal(list, []int64{1, 2, 3}))
		b = impl.Box{Need: 1, Cards: 3, Epoch: 1, Check: checkAsked("m")}
		for _, id := range list {
			b.In = append(b.In, share(id, "m"))
		}
		same(t, fmt.Sprint("in ", list), impl.BoxRight(b), slices.Equal(list, []int64{1, 2, 3}))
		b.In, b.Revoked = b.In[:1], list[1:]
		want := list[0] >= 1 && list[0] <= 3 && areNumbersAsked(list[1:], 3) && !slices.Contains(list[1:], list[0])
		same(t, fmt.Sprint("in, and Revoked behind it ", list), impl.BoxRight(b), want)
	}
}

// Of every choice of cards: they are right together just where they are of that master.
func TestBoxRightEveryChoice(t *testing.T) {
	eachSize(func(need, cards int64) {
		shares := sharesAsked("master", need, cards, boxSalt)
		for choice := range 1 << cards {
			b := dealtBox("master", need, cards)
			for at, s := range shares {
				if choice>>at&1 == 1 {
					b.In = append(b.In, s)
				}
			}
			isOpen := int64(len(b.In)) >= need
			same(t, "right", impl.BoxRight(b), true)
			same(t, "opened", impl.Opened(b), isOpen)
			b.Check = checkAsked("Master")
			same(t, "of another master", impl.BoxRight(b), !isOpen)
			same(t, "so not opened", impl.Opened(b), false)
		}
	})
}

func TestOpenedAndKeyOf(t *testing.T) {
	names := []string{"a", "k1", "k2", "k3", "k000", "k003", "z", "", "1", "K1", strings.Repeat("z", 20), strings.Repeat("z", 21),
		long(impl.MaxBytes), strings.Repeat("a", impl.MaxBytes+1)}
	for _, b := range append(rightBoxes(), wrongBoxes()...) {
		same(t, "Opened", impl.Opened(b), isABox(b) && len(b.In) >= int(b.Need))
		for _, name := range names {
			want := int64(0)
			for _, k := range b.Keys {
				if k.Name == name && isABox(b) {
					want = k.Public
				}
			}
			same(t, "KeyOf", impl.KeyOf(b, name), want)
		}
	}
	b := changed(baseBoxes()[:1], withKeys(key("a", 7), key("ab", 8), key("b", 10006), key("ba", 1)))[0]
	for name, want := range map[string]int64{"a": 7, "ab": 8, "b": 10006, "ba": 1, "": 0, "aa": 0, "abc": 0, "c": 0, "A": 0, "a\x00": 0} {
		same(t, "KeyOf "+name, impl.KeyOf(b, name), want)
	}
}
