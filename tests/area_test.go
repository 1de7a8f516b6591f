package tests

import (
	"hash/crc32"
	"math"
	"slices"
	"strconv"
	"testing"

	"loop.example/g00629/impl"
)

// genEdges are numbers that a head may have.
var genEdges = []int64{0, 1, 63, 64, impl.MaxTime - 1, impl.MaxTime, impl.MaxTime + 1, math.MaxInt64}

// areaSizes are numbers of Sectors of a disk that has a side with room, even and odd ones.
var areaSizes = []int{3, 4, 5, 6, 9, impl.MaxSectors - 1, impl.MaxSectors}

// numbered is a text of these numbers, sealed.
func numbered(nums ...int64) string {
	body := ""
	for _, n := range nums {
		body += impl.PutNum(n)
	}
	return impl.Seal(body)
}

func halfOf(sectors int) int { return (sectors - 1) / 2 }

func roomOf(sectors int) int { return halfOf(sectors) * impl.SectorSize }

// pieces are the parts of a text, each as long as a Sector but the last one.
func pieces(text string) []string {
	var out []string
	for i := 0; i < len(text); i += impl.SectorSize {
		out = append(out, text[i:min(i+impl.SectorSize, len(text))])
	}
	return out
}

// areaDisk is laid by hand: a head, its text on its side, and older things wherever it does not stand.
func areaDisk(sectors int, gen, side int64, text string) impl.Disk {
	d := impl.Disk{Sectors: namedSectors(sectors)}
	d.Sectors[0] = numbered(gen, side, int64(len(text)))
	for i, part := range pieces(text) {
		d.Sectors[1+int(side)*halfOf(sectors)+i] = part
	}
	return d
}

// bareDisk is an areaDisk of which all Sectors without a part of the text are empty.
func bareDisk(sectors int, gen, side int64, text string) impl.Disk {
	d := impl.DiskNew(int64(sectors))
	from := 1 + int(side)*halfOf(sectors)
	d.Sectors[0] = numbered(gen, side, int64(len(text)))
	copy(d.Sectors[from:from+halfOf(sectors)], pieces(text))
	return d
}

// textsFor are texts up to just as many bytes as there is room for.
func textsFor(room int) []string {
	var out []string
	for _, n := range []int{0, 1, impl.SectorSize - 1, impl.SectorSize, impl.SectorSize + 1, 2 * impl.SectorSize, room - 1, room} {
		if n >= 0 && n <= room {
			out = append(out, long(n + 3)[3:])
		}
	}
	return out
}

func sameAreaOut(t *testing.T, what string, got, want impl.AreaOut) {
	t.Helper()
	if !equalDisks(got.Disk, want.Disk) || got.Text != want.Text || got.Gen != want.Gen || got.Code != want.Code {
		t.Errorf("%s: got %+v, want %+v", what, got, want)
	}
}

// noArea asks for a code, and nothing beside it.
func noArea(t *testing.T, what string, got impl.AreaOut, code int64) {
	t.Helper()
	sameAreaOut(t, what, got, impl.AreaOut{Code: code})
}

func TestAreaRoom(t *testing.T) {
	rooms := map[int]int64{1: 0, 2: 0, 3: 64, 4: 64, 5: 128, 6: 128, 7: 192, 63: 1984, 64: 1984}
	for sectors, room := range rooms {
		d := impl.Disk{Sectors: namedSectors(sectors)}
		same(t, "AreaRoom", impl.AreaRoom(d), room)
		d.Pending = manyPending(mostPending, sectors)
		same(t, "AreaRoom with Pending", impl.AreaRoom(d), room)
	}
	for _, sectors := range []int{0, impl.MaxSectors + 1, impl.MaxSectors + 2, impl.MaxList + 1} {
		same(t, "AreaRoom of no right number", impl.AreaRoom(impl.Disk{Sectors: make([]string, sectors)}), 0)
	}
	for _, d := range wrongDisks() {
		same(t, "AreaRoom of a wrong disk", impl.AreaRoom(d), 0)
	}
}

func TestAreaFormat(t *testing.T) {
	sum := crc32.ChecksumIEEE([]byte{0, 0, 0})
	head := string([]byte{0, 0, 0, byte(sum), byte(sum >> 8), byte(sum >> 16), byte(sum >> 24)})
	disks := append(rightDisks(), areaDisk(5, 7, 1, long(100)), impl.DiskNew(2), impl.DiskNew(4))
	for _, d := range disks {
		got := impl.AreaFormat(d)
		if len(d.Sectors) < 3 || len(d.Pending) == mostPending {
			noArea(t, "too few Sectors, or full", got, impl.ErrFull)
			continue
		}
		want := impl.Disk{Sectors: writtenInOrder(d, everyOne)}
		want.Sectors[0] = head
		sameAreaOut(t, "AreaFormat", got, impl.AreaOut{Disk: want})
		sameAreaOut(t, "read behind it", impl.AreaRead(got.Disk), impl.AreaOut{Disk: want})
	}
	for _, d := range wrongDisks() {
		noArea(t, "a wrong disk", impl.AreaFormat(d), impl.ErrForm)
	}
}

func TestAreaRead(t *testing.T) {
	for _, sectors := range append([]int{1, 2}, areaSizes...) {
		for _, gen := range genEdges {
			for _, side := range []int64{0, 1} {
				for _, text := range textsFor(roomOf(sectors)) {
					d := areaDisk(sectors, gen, side, text)
					sameAreaOut(t, "AreaRead", impl.AreaRead(d), impl.AreaOut{Disk: d, Text: text, Gen: gen})
					d = bareDisk(sectors, gen, side, text)
					sameAreaOut(t, "AreaRead, bare", impl.AreaRead(d), impl.AreaOut{Disk: d, Text: text, Gen: gen})
				}
			}
		}
	}
}

// What is Pending is read, as DiskRead tells it, of the head and of the side.
func TestAreaReadOfPending(t *testing.T) {
	for _, pending := range []int{0, 1, mostPending - 4} {
		from := areaDisk(7, 3, 0, "what there was")
		to := areaDisk(7, 9, 1, long(3*impl.SectorSize-5))
		from.Pending = manyPending(pending, 7)
		for _, at := range []int{4, 5, 6, 0} {
			from.Pending = append(from.Pending, impl.Pending{At: int64(at), Data: to.Sectors[at]})
		}
		sameAreaOut(t, "AreaRead of what is Pending", impl.AreaRead(from), impl.AreaOut{Disk: from, Text: long(3*impl.SectorSize - 5), Gen: 9})
	}
	hidden := areaDisk(5, 3, 0, "what there was")
	hidden.Pending = []impl.Pending{{At: 0, Data: "x"}}
	noArea(t, "a head that is hidden", impl.AreaRead(hidden), impl.ErrShort)
	hidden = areaDisk(5, 3, 0, "what there was")
	hidden.Pending = []impl.Pending{{At: 1, Data: "what there wa"}}
	noArea(t, "a side that is hidden", impl.AreaRead(hidden), impl.ErrSum)
}

// A text stands in the Sectors that it needs, each full but the last one: of the last one only its first bytes count.
func TestAreaReadTakesFirstBytes(t *testing.T) {
	for _, side := range []int64{0, 1} {
		d := bareDisk(7, 2, side, long(3*impl.SectorSize))
		for n := range 3*impl.SectorSize + 1 {
			d.Sectors[0] = numbered(2, side, int64(n))
			sameAreaOut(t, "more than the head names", impl.AreaRead(d), impl.AreaOut{Disk: d, Text: long(n), Gen: 2})
		}
	}
}

// What stands in a Sector that the text does not need makes no difference, however few bytes it has.
func TestAreaReadOfUnneededSectors(t *testing.T) {
	for _, n := range []int{0, 1, 4, impl.SectorSize, impl.SectorSize + 4} {
		for _, side := range []int64{0, 1} {
			for _, other := range []string{"", "wxyz", long(impl.SectorSize)} {
				d := bareDisk(8, 2, side, long(n))
				for at := 1; at < len(d.Sectors); at++ {
					if d.Sectors[at] == "" {
						d.Sectors[at] = other
					}
				}
				sameAreaOut(t, "AreaRead", impl.AreaRead(d), impl.AreaOut{Disk: d, Text: long(n), Gen: 2})
			}
		}
	}
}

// A Sector that is not full is not gone on from, even if there are bytes enough behind it, Pending or not.
func TestAreaReadOfSectorNotFull(t *testing.T) {
	for _, side := range []int64{0, 1} {
		for _, n := range []int{1, 4, impl.SectorSize, impl.SectorSize + 4, 2 * impl.SectorSize, 2*impl.SectorSize + 1} {
			for i, part := range pieces(long(n)) {
				for _, left := range []int{0, len(part) / 2, len(part) - 1} {
					shortOfOne(t, n, side, i, part[:left])
				}
			}
		}
	}
}

// shortOfOne lays a text of n bytes over full Sectors, leaves so much in the one of the number i, and asks for ErrSum.
func shortOfOne(t *testing.T, n int, side int64, i int, left string) {
	t.Helper()
	const sectors = 9
	d := areaDisk(sectors, 5, side, long(n))
	at := 1 + int(side)*halfOf(sectors)
	for j := range halfOf(sectors) {
		d.Sectors[at+j] = long(impl.SectorSize * (j + 1))[impl.SectorSize*j:]
	}
	sameAreaOut(t, "AreaRead, all full", impl.AreaRead(d), impl.AreaOut{Disk: d, Text: long(n), Gen: 5})
	waiting := ownDisk(d)
	waiting.Pending = []impl.Pending{{At: int64(at + i), Data: left}}
	mended := ownDisk(d)
	mended.Pending = []impl.Pending{{At: int64(at + i), Data: d.Sectors[at+i]}}
	d.Sectors[at+i], mended.Sectors[at+i] = left, left
	for _, short := range []impl.Disk{d, waiting} {
		noArea(t, "AreaRead, one not full", impl.AreaRead(short), impl.ErrSum)
		noArea(t, "AreaPut, one not full", impl.AreaPut(short, "new", 100), impl.ErrSum)
	}
	sameAreaOut(t, "AreaRead, full again", impl.AreaRead(mended), impl.AreaOut{Disk: mended, Text: long(n), Gen: 5})
}

type headFault struct {
	what string
	head string
	code int64
}

// headFaults are Sectors 0 by which a disk with that room is refused.
func headFaults(room int64) []headFault {
	over := numbered(1, 0, room+1)
	faults := []headFault{
		{"an empty Sector", "", impl.ErrShort},
		{"one byte", "x", impl.ErrShort},
		{"three bytes", "\x00\x00\x00", impl.ErrShort},
		{"no seal, four bytes", "abcd", impl.ErrSum},
		{"no seal", impl.PutNum(1) + impl.PutNum(0) + impl.PutNum(0), impl.ErrShort},
		{"no seal, long", long(impl.SectorSize), impl.ErrSum},
		{"a byte behind the seal", numbered(1, 0, 0) + "\x00", impl.ErrSum},
		{"half a seal", numbered(1, 0, 0)[:5], impl.ErrSum},
		{"nothing sealed", impl.Seal(""), impl.ErrSyntax},
		{"a text sealed", impl.Seal("head"), impl.ErrSyntax},
		{"a long text sealed", impl.Seal(long(impl.SectorSize - 4)), impl.ErrSyntax},
		{"one number", numbered(1), impl.ErrSyntax},
		{"two numbers", numbered(1, 0), impl.ErrSyntax},
		{"four numbers", numbered(1, 0, 0, 0), impl.ErrSyntax},
		{"a byte behind it", impl.Seal(impl.PutNum(1) + impl.PutNum(0) + impl.PutNum(0) + "x"), impl.ErrSyntax},
		{"a byte ahead of it", impl.Seal("\x00" + impl.PutNum(1) + impl.PutNum(0) + impl.PutNum(0)), impl.ErrSyntax},
		{"a needless byte", impl.Seal("\x82\x00" + impl.PutNum(0) + impl.PutNum(0)), impl.ErrSyntax},
		{"a number without end", impl.Seal(impl.PutNum(1) + impl.PutNum(0) + "\x80"), impl.ErrSyntax},
		{"Gen below 0", numbered(-1, 0, 0), impl.ErrSyntax},
		{"the least Gen", numbered(math.MinInt64, 1, 0), impl.ErrSyntax},
		{"Side below 0", numbered(1, -1, 0), impl.ErrSyntax},
		{"Side 2", numbered(1, 2, 0), impl.ErrSyntax},
		{"a far Side", numbered(1, math.MaxInt64, 0), impl.ErrSyntax},
		{"the least Side", numbered(1, math.MinInt64, 0), impl.ErrSyntax},
		{"bytes below 0", numbered(1, 0, -1), impl.ErrSyntax},
		{"the fewest bytes", numbered(1, 1, math.MinInt64), impl.ErrSyntax},
		{"one byte more than there is room for", over, impl.ErrSyntax},
		{"the same on the other side", numbered(1, 1, room+1), impl.ErrSyntax},
		{"far more than there is room for", numbered(1, 0, math.MaxInt64), impl.ErrSyntax},
		{"more than a list holds", numbered(1, 0, 1<<32), impl.ErrSyntax},
	}
	right := numbered(300, 1, min(room, 5))
	for i := range right {
		for bit := range 8 {
			faults = append(faults, headFault{"a byte turned", turned(right, i, 1<<bit), impl.ErrSum})
		}
	}
	return append(faults, headFault{"turned, and too many bytes", turned(over, len(over)-1, 1), impl.ErrSum})
}

// shortSides are disks whose side has fewer bytes than the head names.
func shortSides() []impl.Disk {
	var out []impl.Disk
	for _, side := range []int64{0, 1} {
		for _, n := range []int{1, impl.SectorSize, impl.SectorSize + 1, 100, 2 * impl.SectorSize} {
			last := 1 + 2*int(side) + len(pieces(long(n))) - 1
			for _, at := range []int{1 + 2*int(side), last} {
				d := bareDisk(5, 1, side, long(n))
				d.Sectors[at] = d.Sectors[at][1:]
				out = append(out, d)
			}
			empty := areaDisk(5, 1, 1-side, long(2*impl.SectorSize))
			empty.Sectors[0] = numbered(1, side, int64(n))
			empty.Sectors[1+2*side], empty.Sectors[2+2*side] = "", ""
			out = append(out, empty)
		}
	}
	// Bytes enough on the side, but not in the Sectors in which they stand.
	four := numbered(1, 0, 4)
	out = append(out,
		impl.Disk{Sectors: []string{four, "abc", "wxyz", "", ""}},
		impl.Disk{Sectors: []string{four, "", "wxyz", "", ""}},
		impl.Disk{Sectors: []string{numbered(1, 1, 68), "", "", long(63), "abcdefgh"}},
		impl.Disk{Sectors: []string{numbered(1, 1, 68), "", "", "", long(64), "abc", "wxyz"}},
		impl.Disk{Sectors: []string{numbered(2, 1, 4), "a", "b", "c", "ab", "", "cd"}})
	// The Sector that an even disk has left over belongs to no side.
	spare := impl.Disk{Sectors: []string{numbered(0, 1, 64), long(64), long(63), long(64)}}
	return append(out, spare)
}

func TestAreaReadRefused(t *testing.T) {
	for _, sectors := range append([]int{1, 2}, areaSizes...) {
		for _, f := range headFaults(int64(roomOf(sectors))) {
			d := impl.Disk{Sectors: namedSectors(sectors)}
			d.Sectors[0] = f.head
			noArea(t, f.what, impl.AreaRead(d), f.code)
			d.Sectors[0] = numbered(1, 0, 0)
			d.Pending = []impl.Pending{{At: 0, Data: f.head}}
			noArea(t, f.what+", Pending", impl.AreaRead(d), f.code)
		}
	}
	for _, d := range shortSides() {
		noArea(t, "a side that has fewer", impl.AreaRead(d), impl.ErrSum)
	}
	for _, d := range wrongDisks() {
		noArea(t, "a wrong disk", impl.AreaRead(d), impl.ErrForm)
	}
	for _, sectors := range []int{1, 2} {
		d := impl.Disk{Sectors: append([]string{numbered(0, 0, 1)}, namedSectors(sectors-1)...)}
		noArea(t, "no side at all", impl.AreaRead(d), impl.ErrSyntax)
	}
}

// A wrong disk is told ahead of a wrong head, and of a right one.
func TestAreaReadOfWrongDiskFirst(t *testing.T) {
	for _, head := range []string{"", "abcd", impl.Seal(""), numbered(1, 0, 1), numbered(1, 0, 0)} {
		d := impl.Disk{Sectors: []string{head, "", "", long(impl.SectorSize + 1)}}
		noArea(t, "a wrong disk", impl.AreaRead(d), impl.ErrForm)
		noArea(t, "a wrong disk", impl.AreaFormat(d), impl.ErrForm)
		noArea(t, "a wrong disk", impl.AreaPut(d, "x", 9), impl.ErrForm)
	}
}

// madePut does the steps of a put as the chapter says them, one by one, to a disk of its own.
func madePut(d impl.Disk, gen, side int64, text string, steps int64) impl.AreaOut {
	d = ownDisk(d)
	full := false
	write := func(at int, data string) {
		full = full || len(d.Pending) == mostPending
		d.Pending = append(d.Pending, impl.Pending{At: int64(at), Data: data})
	}
	flush := func() { d = impl.Disk{Sectors: writtenInOrder(d, everyOne)} }
	parts := pieces(text)
	for i := int64(0); i < steps && i < int64(len(parts)+3); i++ {
		switch behind := int(i) - len(parts); {
		case behind < 0:
			write(1+int(1-side)*halfOf(len(d.Sectors))+int(i), parts[i])
		case behind == 1:
			write(0, numbered(gen+1, 1-side, int64(len(text))))
		default:
			flush()
		}
		if full {
			return impl.AreaOut{Code: impl.ErrFull}
		}
	}
	return impl.AreaOut{Disk: d}
}

// stepsOf are all numbers of steps that make a difference for a text, and those beside them.
func stepsOf(text string) []int64 {
	all := int64(len(pieces(text)) + 3)
	out := []int64{math.MinInt64, -all, -1, all + 1, all + 2, 1 << 32, math.MaxInt64}
	for i := range all + 1 {
		out = append(out, i)
	}
	return out
}

func TestAreaPut(t *testing.T) {
	for _, sectors := range append([]int{1, 2}, areaSizes...) {
		for _, gen := range []int64{0, 1, 5000, impl.MaxTime - 2, impl.MaxTime - 1} {
			for _, side := range []int64{0, 1} {
				d := areaDisk(sectors, gen, side, long(min(7, roomOf(sectors))))
				for _, text := range textsFor(roomOf(sectors)) {
					for _, steps := range stepsOf(text) {
						sameAreaOut(t, "AreaPut", impl.AreaPut(d, text, steps), madePut(d, gen, side, text, steps))
					}
				}
			}
		}
	}
}

func TestAreaPutOnPending(t *testing.T) {
	for _, pending := range []int{1, 2, mostPending - 2, mostPending - 1, mostPending} {
		for _, head := range []int{-1, pending - 1} {
			d := areaDisk(9, 11, 0, long(70))
			if d.Pending = pendingBeside(pending); head >= 0 {
				d.Pending[head] = impl.Pending{At: 0, Data: d.Sectors[0]}
				d.Sectors[0] = "no head"
			}
			for _, text := range textsFor(roomOf(9)) {
				for _, steps := range stepsOf(text) {
					sameAreaOut(t, "AreaPut on Pending", impl.AreaPut(d, text, steps), madePut(d, 11, 0, text, steps))
				}
			}
		}
	}
}

// pendingBeside are n Pending that leave the head and the first side of 9 Sectors alone.
func pendingBeside(n int) []impl.Pending {
	out := manyPending(n, 4)
	for i := range out {
		out[i].At += 5
	}
	return out
}

func TestAreaPutExactly(t *testing.T) {
	d := impl.AreaFormat(impl.DiskNew(4)).Disk
	d = impl.AreaPut(d, "ab", 9).Disk
	sameDisk(t, "the first text is on the second side", d, impl.Disk{Sectors: []string{numbered(1, 1, 2), "", "ab", ""}})
	d = impl.AreaPut(d, "c", 9).Disk
	sameDisk(t, "the next one on the first side", d, impl.Disk{Sectors: []string{numbered(2, 0, 1), "c", "ab", ""}})
	d = impl.AreaPut(d, "", 9).Disk
	sameDisk(t, "an empty one needs no Sector", d, impl.Disk{Sectors: []string{numbered(3, 1, 0), "c", "ab", ""}})
	sameDisk(t, "no step", impl.AreaPut(d, "new", 0).Disk, d)
}

// Where two faults or more are there at once, the first one that is named is told, whatever the steps.
func TestAreaPutRefused(t *testing.T) {
	for _, steps := range []int64{-1, 0, 1, 3, 100, math.MaxInt64} {
		for _, d := range append(wrongDisks(), shortSides()...) {
			noArea(t, "more than MaxBytes", impl.AreaPut(d, long(impl.MaxBytes+1), steps), impl.ErrSize)
		}
		for _, d := range wrongDisks() {
			for _, n := range []int{0, 1, 1985, impl.MaxBytes} {
				noArea(t, "a wrong disk", impl.AreaPut(d, long(n), steps), impl.ErrForm)
			}
		}
		for _, d := range shortSides() {
			for _, n := range []int{0, 1, 129, impl.MaxBytes} {
				noArea(t, "a side that has fewer", impl.AreaPut(d, long(n), steps), impl.ErrSum)
			}
		}
		for _, f := range headFaults(128) {
			d := impl.Disk{Sectors: append([]string{f.head}, namedSectors(4)...), Pending: manyPending(1, 1)}
			d.Pending[0].Data = f.head
			noArea(t, f.what+", too long a text", impl.AreaPut(d, long(129), steps), f.code)
			noArea(t, f.what, impl.AreaPut(d, "x", steps), f.code)
		}
	}
}

func TestAreaPutFull(t *testing.T) {
	for _, sectors := range append([]int{1, 2}, areaSizes...) {
		room := roomOf(sectors)
		for _, steps := range []int64{math.MinInt64, -1, 0, 1, 2, 100} {
			d := areaDisk(sectors, 4, 1, "")
			for _, n := range []int{room + 1, room + 2, room + impl.SectorSize, impl.MaxBytes - 1, impl.MaxBytes} {
				noArea(t, "more than there is room for", impl.AreaPut(d, long(n), steps), impl.ErrFull)
			}
			noArea(t, "more than MaxBytes", impl.AreaPut(d, long(impl.MaxBytes+1), steps), impl.ErrSize)
			for _, gen := range []int64{impl.MaxTime, impl.MaxTime + 1, math.MaxInt64 - 1, math.MaxInt64} {
				noArea(t, "no further number", impl.AreaPut(areaDisk(sectors, gen, 0, ""), "", steps), impl.ErrFull)
			}
		}
	}
	d := impl.AreaPut(areaDisk(3, impl.MaxTime-1, 0, "x"), "y", 9).Disk
	sameAreaOut(t, "the last number", impl.AreaRead(d), impl.AreaOut{Disk: d, Text: "y", Gen: impl.MaxTime})
	noArea(t, "none behind it", impl.AreaPut(d, "z", 9), impl.ErrFull)
}

// areaCalls are all calls of the chapter that take a disk and tell one.
func areaCalls() map[string]func(d impl.Disk) impl.Disk {
	calls := map[string]func(d impl.Disk) impl.Disk{
		"AreaFormat": func(d impl.Disk) impl.Disk { return impl.AreaFormat(d).Disk },
		"AreaRead":   func(d impl.Disk) impl.Disk { return impl.AreaRead(d).Disk },
		"AreaRoom":   func(d impl.Disk) impl.Disk { impl.AreaRoom(d); return impl.Disk{} },
	}
	for _, steps := range []int64{-1, 0, 1, 2, 3, 4, 5, 100} {
		calls["AreaPut, steps "+strconv.FormatInt(steps, 10)] = func(d impl.Disk) impl.Disk {
			return impl.AreaPut(d, long(impl.SectorSize+1), steps).Disk
		}
	}
	return calls
}

func TestAreaMemory(t *testing.T) {
	disks := slices.Concat(rightDisks(), wrongDisks(), shortSides(),
		[]impl.Disk{areaDisk(5, 0, 0, "abc"), areaDisk(8, 9, 1, long(150)), areaDisk(impl.MaxSectors, 77, 0, long(1984))})
	for _, n := range []int{1, 5, mostPending - 1, mostPending} {
		d := areaDisk(9, 11, 0, long(70))
		d.Pending = pendingBeside(n)
		disks = append(disks, d)
	}
	for what, call := range areaCalls() {
		for _, d := range disks {
			ownMemory(t, what, d, call)
		}
	}
}
