package tests

import (
	"math/rand"
	"testing"

	"loop.example/g00629/impl"
)

// mostSubsets is up to how many Pending each choice of them is tried.
const mostSubsets = 6

// Promise 5: a text that is put with all steps is read again, of the next number.
func TestWhatIsPutIsRead(t *testing.T) {
	r := dice(51)
	for sectors := 3; sectors <= impl.MaxSectors; sectors++ {
		d := impl.AreaFormat(impl.DiskNew(int64(sectors))).Disk
		for gen := int64(1); gen <= 6; gen++ {
			text := randomText(r, r.Intn(roomOf(sectors)+1))
			d = readBack(t, d, text, gen)
		}
		for i, text := range textsFor(roomOf(sectors)) {
			d = readBack(t, d, text, int64(7+i))
		}
	}
}

// readBack puts a text with all steps, and asks for it, behind a crash too.
func readBack(t *testing.T, d impl.Disk, text string, gen int64) impl.Disk {
	t.Helper()
	all := int64(len(pieces(text)) + 3)
	out := impl.AreaPut(d, text, all)
	same(t, "AreaPut", out.Code, impl.OK)
	same(t, "Pending", len(out.Disk.Pending), 0)
	sameDisk(t, "more steps than there are", impl.AreaPut(d, text, all+100).Disk, out.Disk)
	sameAreaOut(t, "AreaRead", impl.AreaRead(out.Disk), impl.AreaOut{Disk: out.Disk, Text: text, Gen: gen})
	crashed := impl.DiskCrash(out.Disk, nil)
	sameAreaOut(t, "AreaRead behind a crash", impl.AreaRead(crashed), impl.AreaOut{Disk: out.Disk, Text: text, Gen: gen})
	return out.Disk
}

// Promise 5 holds as well where something was Pending ahead, as long as there is room for what is written.
func TestWhatIsPutOnPendingIsRead(t *testing.T) {
	for _, pending := range []int{1, 50, mostPending - 4} {
		for _, text := range textsFor(roomOf(9)) {
			d := areaDisk(9, 11, 0, long(70))
			d.Pending = pendingBeside(pending)
			readBack(t, d, text, 12)
		}
	}
	d := areaDisk(9, 11, 0, long(70))
	d.Pending = pendingBeside(mostPending)
	readBack(t, d, "", 12)
}

// keptOf are choices of what a crash keeps of so many Pending: all, none, some, each one where they are few.
func keptOf(r *rand.Rand, pending int) [][]int64 {
	every, none := make([]int64, pending), make([]int64, pending)
	for i := range every {
		every[i] = int64(i + 1)
	}
	out := [][]int64{nil, every, none, every[:pending/2]}
	if pending > mostSubsets {
		for range 20 {
			out = append(out, randomKeep(r), randomSome(r, pending))
		}
		return out
	}
	for set := range 1 << pending {
		keep := make([]int64, pending)
		for i := range keep {
			keep[i] = int64(set >> i & 1)
		}
		out = append(out, keep)
	}
	return out
}

func randomSome(r *rand.Rand, n int) []int64 {
	out := make([]int64, n)
	for i := range out {
		out[i] = int64(r.Intn(3) - 1)
	}
	return out
}

// tornAt puts a text with so many steps, lets the power go, and asks for what there was or for that text, and for
// each where it must be: nothing of the new one counts ahead of its head, and all of it behind the last flush.
func tornAt(t *testing.T, r *rand.Rand, d impl.Disk, text string, steps int64) {
	t.Helper()
	was := impl.AreaRead(d)
	same(t, "what there was", was.Code, impl.OK)
	put := impl.AreaPut(d, text, steps)
	same(t, "AreaPut", put.Code, impl.OK)
	all := int64(len(pieces(text)) + 3)
	for _, keep := range keptOf(r, len(put.Disk.Pending)) {
		crashed := impl.DiskCrash(put.Disk, keep)
		want := impl.AreaOut{Disk: crashed, Text: was.Text, Gen: was.Gen}
		headKept := len(put.Disk.Pending) == 1 && len(keep) > 0 && keep[0] > 0
		if steps >= all || steps == all-1 && headKept {
			want.Text, want.Gen = text, was.Gen+1
		}
		sameAreaOut(t, "AreaRead behind a crash", impl.AreaRead(crashed), want)
		next := impl.AreaPut(crashed, "next", 100)
		sameAreaOut(t, "a put behind a crash", impl.AreaRead(next.Disk), impl.AreaOut{Disk: next.Disk, Text: "next", Gen: want.Gen + 1})
	}
}

// Promise 6: wherever the power goes, what is read is what there was, or the text that was put.
func TestWhereverThePowerGoes(t *testing.T) {
	r := dice(61)
	for _, sectors := range areaSizes {
		for _, side := range []int64{0, 1} {
			for i, old := range textsFor(roomOf(sectors)) {
				d := areaDisk(sectors, int64(i*1000), side, old)
				for _, text := range textsFor(roomOf(sectors)) {
					for steps := int64(-1); steps <= int64(len(pieces(text))+4); steps++ {
						tornAt(t, r, d, text, steps)
					}
				}
			}
		}
	}
}

// Promise 6 over many puts, one behind the other, each of which may be torn.
func TestPowerGoesAgainAndAgain(t *testing.T) {
	r := dice(62)
	for _, sectors := range areaSizes {
		d := impl.AreaFormat(impl.DiskNew(int64(sectors))).Disk
		for range 150 {
			was := impl.AreaRead(d)
			text := randomText(r, r.Intn(roomOf(sectors)+1))
			put := impl.AreaPut(d, text, int64(r.Intn(len(pieces(text))+5)))
			same(t, "AreaPut", put.Code, impl.OK)
			d = impl.DiskCrash(put.Disk, randomSome(r, len(put.Disk.Pending)))
			got := impl.AreaRead(d)
			before := got.Code == impl.OK && got.Text == was.Text && got.Gen == was.Gen
			behind := got.Code == impl.OK && got.Text == text && got.Gen == was.Gen+1
			if !before && !behind {
				t.Fatalf("neither what there was nor the text: %+v, was %+v, put %q", got, was, text)
			}
		}
	}
}
