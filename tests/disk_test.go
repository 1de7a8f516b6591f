package tests

import (
	"math"
	"math/rand"
	"slices"
	"strings"
	"testing"

	"loop.example/g00629/impl"
)

const mostPending = 200

// placesBeside are numbers of which the disk has no Sector.
func placesBeside(d impl.Disk) []int64 {
	last := int64(len(d.Sectors))
	return []int64{-1, last, last + 1, -last, 1 << 32, math.MaxInt64, math.MinInt64}
}

// equalDisks holds two disks against each other; an empty list and none are the same.
func equalDisks(a, b impl.Disk) bool {
	return slices.Equal(a.Sectors, b.Sectors) && slices.Equal(a.Pending, b.Pending)
}

func sameDisk(t *testing.T, what string, got, want impl.Disk) {
	t.Helper()
	if !equalDisks(got, want) {
		t.Errorf("%s: got %+v, want %+v", what, got, want)
	}
}

func sameDiskOut(t *testing.T, what string, got, want impl.DiskOut) {
	t.Helper()
	if !equalDisks(got.Disk, want.Disk) || got.Data != want.Data || got.Code != want.Code {
		t.Errorf("%s: got %+v, want %+v", what, got, want)
	}
}

// refusedWith asks for a code, and nothing beside it.
func refusedWith(t *testing.T, what string, got impl.DiskOut, code int64) {
	t.Helper()
	sameDiskOut(t, what, got, impl.DiskOut{Code: code})
}

func ownDisk(d impl.Disk) impl.Disk {
	return impl.Disk{Sectors: slices.Clone(d.Sectors), Pending: slices.Clone(d.Pending)}
}

// manyPending are n of them, told apart by their Data, over the first Sectors.
func manyPending(n, sectors int) []impl.Pending {
	var out []impl.Pending
	for i := range n {
		out = append(out, impl.Pending{At: int64(i * 7 % sectors), Data: "p" + string(rune('0'+i%10)) + long(i%60)})
	}
	return out
}

// namedSectors are n of them, told apart by what stands in them.
func namedSectors(n int) []string {
	var out []string
	for i := range n {
		out = append(out, strings.Repeat(string(rune('A'+i%26)), i%impl.SectorSize+1))
	}
	return out
}

// rightDisks are ordinary ones and those at the edges.
func rightDisks() []impl.Disk {
	disks := []impl.Disk{
		impl.DiskNew(1),
		impl.DiskNew(3),
		impl.DiskNew(impl.MaxSectors),
		{Sectors: []string{"a", "", "c"}, Pending: []impl.Pending{{At: 0, Data: "x"}, {At: 2}, {At: 0, Data: "y"}}},
		{Sectors: []string{"a", "b"}, Pending: []impl.Pending{{At: 1, Data: "x"}, {At: 1, Data: "y"}, {At: 1, Data: "x"}}},
		{Sectors: []string{long(impl.SectorSize)}, Pending: []impl.Pending{{At: 0, Data: long(impl.SectorSize + 1)[1:]}}},
	}
	for _, sectors := range []int{1, 2, 7, impl.MaxSectors - 1, impl.MaxSectors} {
		for _, pending := range []int{0, 1, 2, mostPending - 1, mostPending} {
			disks = append(disks, impl.Disk{Sectors: namedSectors(sectors), Pending: manyPending(pending, sectors)})
		}
	}
	return disks
}

// wrongDisks each have one fault.
func wrongDisks() []impl.Disk {
	over := long(impl.SectorSize + 1)
	disks := []impl.Disk{
		{},
		{Sectors: []string{}},
		{Pending: []impl.Pending{{At: 0, Data: "x"}}},
		{Sectors: namedSectors(impl.MaxSectors + 1)},
		{Sectors: make([]string, impl.MaxSectors+1)},
		{Sectors: make([]string, impl.MaxList+1)},
		{Sectors: []string{over}},
		{Sectors: []string{"a", "b", over}},
		{Sectors: []string{over, "b", "c"}},
		{Sectors: []string{"a", long(impl.MaxBytes + 1)}},
		{Sectors: namedSectors(3), Pending: manyPending(mostPending+1, 3)},
		{Sectors: namedSectors(3), Pending: manyPending(impl.MaxList+1, 3)},
	}
	wrongPending := []impl.Pending{
		{At: -1}, {At: 3}, {At: 4}, {At: math.MaxInt64}, {At: math.MinInt64}, {At: 1 << 32},
		{At: 0, Data: over}, {At: 2, Data: over}, {At: 1, Data: long(impl.MaxBytes + 1)},
	}
	for _, p := range wrongPending {
		right := impl.Pending{At: 1, Data: "x"}
		disks = append(disks,
			impl.Disk{Sectors: namedSectors(3), Pending: []impl.Pending{p}},
			impl.Disk{Sectors: namedSectors(3), Pending: []impl.Pending{p, right}},
			impl.Disk{Sectors: namedSectors(3), Pending: []impl.Pending{right, p}})
	}
	return disks
}

// writtenInOrder does one Pending behind the other, as the chapter says it, to Sectors of its own.
func writtenInOrder(d impl.Disk, kept func(i int) bool) []string {
	out := slices.Clone(d.Sectors)
	for i, p := range d.Pending {
		if kept(i) {
			out[p.At] = p.Data
		}
	}
	return out
}

func everyOne(int) bool { return true }

func TestDiskLimits(t *testing.T) {
	same(t, "MaxSectors", impl.MaxSectors, 64)
	same(t, "SectorSize", impl.SectorSize, 64)
}

func TestDiskRight(t *testing.T) {
	for i, d := range rightDisks() {
		if !impl.DiskRight(d) {
			t.Errorf("right disk %d is told wrong: %+v", i, d)
		}
	}
	for i, d := range wrongDisks() {
		if impl.DiskRight(d) {
			t.Errorf("wrong disk %d is told right: %+v", i, d)
		}
	}
	same(t, "the last Sector", impl.DiskRight(impl.Disk{Sectors: namedSectors(3), Pending: []impl.Pending{{At: 2}}}), true)
}

func TestDiskNew(t *testing.T) {
	for n := int64(1); n <= impl.MaxSectors; n++ {
		sameDisk(t, "DiskNew", impl.DiskNew(n), impl.Disk{Sectors: make([]string, n)})
	}
	for _, n := range []int64{0, -1, -64, impl.MaxSectors + 1, impl.MaxList + 1, 1<<32 + 1, math.MaxInt64, math.MinInt64} {
		sameDisk(t, "DiskNew of a wrong number", impl.DiskNew(n), impl.Disk{})
	}
}

func TestDiskRead(t *testing.T) {
	for _, d := range rightDisks() {
		want := writtenInOrder(d, everyOne)
		for at := range d.Sectors {
			sameDiskOut(t, "DiskRead", impl.DiskRead(d, int64(at)), impl.DiskOut{Disk: d, Data: want[at]})
		}
		for _, at := range placesBeside(d) {
			refusedWith(t, "no such Sector", impl.DiskRead(d, at), impl.ErrRange)
		}
	}
	for _, d := range wrongDisks() {
		for _, at := range append(placesBeside(d), 0, 1, 2) {
			refusedWith(t, "a wrong disk", impl.DiskRead(d, at), impl.ErrForm)
		}
	}
}

func TestDiskReadOfEmptyPending(t *testing.T) {
	d := impl.Disk{Sectors: []string{"a", "b"}, Pending: []impl.Pending{{At: 0, Data: "x"}, {At: 0, Data: ""}}}
	same(t, "an empty text hides what was there", impl.DiskRead(d, 0).Data, "")
	same(t, "the other Sector", impl.DiskRead(d, 1).Data, "b")
}

func TestDiskWrite(t *testing.T) {
	for _, d := range rightDisks() {
		for at := range d.Sectors {
			for _, n := range []int{0, 1, impl.SectorSize - 1, impl.SectorSize} {
				p := impl.Pending{At: int64(at), Data: long(n)}
				got := impl.DiskWrite(d, p.At, p.Data)
				if len(d.Pending) == mostPending {
					refusedWith(t, "a full disk", got, impl.ErrFull)
					continue
				}
				want := impl.Disk{Sectors: d.Sectors, Pending: append(slices.Clone(d.Pending), p)}
				sameDiskOut(t, "DiskWrite", got, impl.DiskOut{Disk: want})
				same(t, "right", impl.DiskRight(got.Disk), true)
			}
		}
	}
}

func TestDiskWriteUntilFull(t *testing.T) {
	d := impl.DiskNew(2)
	for i := range mostPending {
		out := impl.DiskWrite(d, int64(i%2), "x")
		same(t, "a write", out.Code, impl.OK)
		d = out.Disk
	}
	same(t, "Pending", len(d.Pending), mostPending)
	refusedWith(t, "one more", impl.DiskWrite(d, 0, "x"), impl.ErrFull)
	same(t, "flushed there is room again", impl.DiskWrite(impl.DiskFlush(d).Disk, 0, "x").Code, impl.OK)
}

// Where two faults or more are there at once, the first one that is named is told.
func TestDiskWriteRefused(t *testing.T) {
	full := impl.Disk{Sectors: namedSectors(3), Pending: manyPending(mostPending, 3)}
	overSize := []int{impl.MaxBytes + 1, 2 * impl.MaxBytes}
	overSector := []int{impl.SectorSize + 1, impl.SectorSize + 2, impl.MaxBytes - 1, impl.MaxBytes}
	for _, d := range append(rightDisks(), full) {
		for _, at := range append(placesBeside(d), 0) {
			for _, n := range overSize {
				refusedWith(t, "more than MaxBytes", impl.DiskWrite(d, at, long(n)), impl.ErrSize)
			}
			for _, n := range overSector {
				refusedWith(t, "more than SectorSize", impl.DiskWrite(d, at, long(n)), impl.ErrForm)
			}
		}
		for _, at := range placesBeside(d) {
			refusedWith(t, "no such Sector", impl.DiskWrite(d, at, "x"), impl.ErrRange)
			refusedWith(t, "no such Sector", impl.DiskWrite(d, at, long(impl.SectorSize)), impl.ErrRange)
		}
	}
	for _, d := range wrongDisks() {
		for _, at := range append(placesBeside(d), 0, 1, 2) {
			refusedWith(t, "a wrong disk, too long", impl.DiskWrite(d, at, long(impl.MaxBytes+1)), impl.ErrSize)
			refusedWith(t, "a wrong disk, over", impl.DiskWrite(d, at, long(impl.SectorSize+1)), impl.ErrForm)
			refusedWith(t, "a wrong disk", impl.DiskWrite(d, at, "x"), impl.ErrForm)
		}
	}
}

func TestDiskFlush(t *testing.T) {
	for _, d := range rightDisks() {
		want := impl.Disk{Sectors: writtenInOrder(d, everyOne)}
		got := impl.DiskFlush(d)
		sameDiskOut(t, "DiskFlush", got, impl.DiskOut{Disk: want})
		sameDiskOut(t, "DiskFlush again", impl.DiskFlush(got.Disk), impl.DiskOut{Disk: want})
	}
	for _, d := range wrongDisks() {
		refusedWith(t, "a wrong disk", impl.DiskFlush(d), impl.ErrForm)
	}
}

// keeps are lists by which a disk of so many Pending may crash.
func keeps(pending int) [][]int64 {
	every, none, less, turns := []int64{}, []int64{}, []int64{}, []int64{}
	for i := range impl.MaxList {
		every = append(every, int64(i+1))
		none = append(none, 0)
		less = append(less, int64(-i-1))
		turns = append(turns, int64(i%3-1))
	}
	out := [][]int64{nil, {}, {1}, {0}, {-1}, {0, 1}, {1, 0}, {-1, 1}, {1, 1}, {math.MaxInt64, math.MinInt64, math.MaxInt64}}
	for _, l := range [][]int64{every, none, less, turns} {
		out = append(out, l, l[:pending], l[:pending/2], l[:pending+1], l[:max(pending-1, 0)])
	}
	return out
}

func TestDiskCrash(t *testing.T) {
	for _, d := range rightDisks() {
		for _, keep := range keeps(len(d.Pending)) {
			want := writtenInOrder(d, func(i int) bool { return i < len(keep) && keep[i] > 0 })
			sameDisk(t, "DiskCrash", impl.DiskCrash(d, keep), impl.Disk{Sectors: want})
		}
	}
	d := impl.Disk{Sectors: []string{"a", "b"}, Pending: []impl.Pending{{At: 0, Data: "x"}, {At: 1, Data: "y"}, {At: 0, Data: "z"}}}
	sameDisk(t, "the first one alone", impl.DiskCrash(d, []int64{1, 0, 0}), impl.Disk{Sectors: []string{"x", "b"}})
	sameDisk(t, "the first and the last one", impl.DiskCrash(d, []int64{1, -1, 1}), impl.Disk{Sectors: []string{"z", "b"}})
	sameDisk(t, "nothing", impl.DiskCrash(d, nil), impl.Disk{Sectors: []string{"a", "b"}})
}

func TestDiskCrashRefused(t *testing.T) {
	most, over := make([]int64, impl.MaxList), make([]int64, impl.MaxList+1)
	most[0], over[0] = 1, 1
	for _, d := range wrongDisks() {
		for _, keep := range [][]int64{nil, {1}, {0}, {1, 1, 1}, most} {
			sameDisk(t, "a wrong disk as it is", impl.DiskCrash(d, keep), d)
		}
	}
	for _, d := range append(wrongDisks(), rightDisks()...) {
		sameDisk(t, "more than MaxList", impl.DiskCrash(d, over), impl.Disk{})
		sameDisk(t, "far more than MaxList", impl.DiskCrash(d, make([]int64, 3*impl.MaxList)), impl.Disk{})
	}
}

// Promise 4: what is written is read, no other Sector reads as another one than before, and flushed it is there behind any crash.
func TestWhatIsWrittenIsRead(t *testing.T) {
	r := dice(41)
	for range 60 {
		sectors := 1 + r.Intn(8)
		d := impl.DiskNew(int64(sectors))
		reads := make([]string, sectors)
		stands := make([]string, sectors)
		for range 80 {
			at, data := r.Intn(sectors), randomText(r, r.Intn(impl.SectorSize+1))
			out := impl.DiskWrite(d, int64(at), data)
			same(t, "DiskWrite", out.Code, impl.OK)
			d, reads[at] = out.Disk, data
			switch r.Intn(8) {
			case 0:
				d = impl.DiskFlush(d).Disk
				stands = slices.Clone(reads)
			case 1:
				d = impl.DiskCrash(d, nil)
				reads = slices.Clone(stands)
			}
			readsAs(t, d, reads)
			readsAs(t, impl.DiskCrash(d, nil), stands)
			readsAs(t, impl.DiskCrash(impl.DiskFlush(d).Disk, randomKeep(r)), reads)
		}
	}
}

func readsAs(t *testing.T, d impl.Disk, want []string) {
	t.Helper()
	for at, data := range want {
		same(t, "DiskRead", impl.DiskRead(d, int64(at)).Data, data)
	}
}

func randomKeep(r *rand.Rand) []int64 {
	out := make([]int64, r.Intn(12))
	for i := range out {
		out[i] = int64(r.Intn(3) - 1)
	}
	return out
}

// scribbled turns every item of a disk's lists, and what stands behind their ends.
func scribbled(d impl.Disk) {
	sectors, pending := d.Sectors[:cap(d.Sectors)], d.Pending[:cap(d.Pending)]
	for i := range sectors {
		sectors[i] = "scribbled"
	}
	for i := range pending {
		pending[i] = impl.Pending{At: -7, Data: "scribbled"}
	}
}

// roomy is d in lists that have room behind their ends, which a call could fill by mistake.
func roomy(d impl.Disk) impl.Disk {
	return impl.Disk{
		Sectors: append(make([]string, 0, len(d.Sectors)+5), d.Sectors...),
		Pending: append(make([]impl.Pending, 0, len(d.Pending)+5), d.Pending...),
	}
}

// diskCalls are all calls that take a disk and tell one.
func diskCalls() map[string]func(d impl.Disk) impl.Disk {
	return map[string]func(d impl.Disk) impl.Disk{
		"DiskRead":           func(d impl.Disk) impl.Disk { return impl.DiskRead(d, 0).Disk },
		"DiskWrite":          func(d impl.Disk) impl.Disk { return impl.DiskWrite(d, 0, "x").Disk },
		"DiskFlush":          func(d impl.Disk) impl.Disk { return impl.DiskFlush(d).Disk },
		"DiskCrash, kept":    func(d impl.Disk) impl.Disk { return impl.DiskCrash(d, []int64{1, 1, 0, 1}) },
		"DiskCrash, nothing": func(d impl.Disk) impl.Disk { return impl.DiskCrash(d, nil) },
	}
}

// ownMemory asks that a call changes no argument, not even behind the end of its lists, and shares no memory with it.
func ownMemory(t *testing.T, what string, d impl.Disk, call func(d impl.Disk) impl.Disk) {
	t.Helper()
	arg := roomy(d)
	scribbled(impl.Disk{Sectors: arg.Sectors[len(arg.Sectors):], Pending: arg.Pending[len(arg.Pending):]})
	got := call(arg)
	sameDisk(t, what+": the argument behind the call", arg, d)
	same(t, what+": behind its Sectors", arg.Sectors[:cap(arg.Sectors)][len(d.Sectors)], "scribbled")
	same(t, what+": behind its Pending", arg.Pending[:cap(arg.Pending)][len(d.Pending)].Data, "scribbled")
	told := ownDisk(got)
	scribbled(arg)
	sameDisk(t, what+": the answer, the argument turned", got, told)

	arg = roomy(d)
	scribbled(call(arg))
	sameDisk(t, what+": the argument, the answer turned", arg, d)
	sameDisk(t, what+": another answer", call(arg), told)
}

func TestDiskMemory(t *testing.T) {
	for what, call := range diskCalls() {
		for _, d := range append(rightDisks(), wrongDisks()...) {
			ownMemory(t, what, d, call)
		}
	}
}

func TestDiskCrashLeavesKeep(t *testing.T) {
	keep := []int64{1, 0, -1, 5}
	for _, d := range append(rightDisks(), wrongDisks()...) {
		impl.DiskCrash(d, keep)
		same(t, "keep as it was", slices.Equal(keep, []int64{1, 0, -1, 5}), true)
	}
}
