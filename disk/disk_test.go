package disk_test

import (
	"math"
	"rookery/api"
	"rookery/disk"
	"runtime"
	"strings"
	"testing"
)

// made is a disk of so much room.
func made(t *testing.T, room int) *disk.Disk {
	t.Helper()
	d, e := disk.New(room)
	if d == nil || e != api.OK {
		t.Fatalf("New(%d): %v, %d", room, d, e)
	}
	return d
}

// need asks that a call is answered so.
func need(t *testing.T, what string, got, want api.Errno) {
	t.Helper()
	if got != want {
		t.Errorf("%s: %d, not %d", what, got, want)
	}
}

// add puts bytes behind a file's, which must not be refused.
func add(t *testing.T, d *disk.Disk, file int, s string) {
	t.Helper()
	need(t, "Add", d.Add(file, s), api.OK)
}

// sync makes all bytes sure, which must not be refused.
func sync(t *testing.T, d *disk.Disk) {
	t.Helper()
	need(t, "Sync", d.Sync(), api.OK)
}

// holds asks that a file has these bytes, and so many of them sure.
func holds(t *testing.T, d *disk.Disk, file int, want string, sure int) {
	t.Helper()
	n, m := d.Size(file)
	if n != len(want) || m != sure {
		t.Errorf("file %d: %d bytes, %d sure, not %d and %d", file, n, m, len(want), sure)
	}
	if s, e := d.Bytes(file, 0, n); s != want || e != api.OK {
		t.Errorf("file %d: %q, %d, not %q", file, s, e, want)
	}
}

// uses asks how many bytes all files have.
func uses(t *testing.T, d *disk.Disk, want int) {
	t.Helper()
	if n := d.Used(); n != want {
		t.Errorf("Used: %d, not %d", n, want)
	}
}

func TestNewTakesRoomsFromOneOn(t *testing.T) {
	for _, room := range []int{1, 2, 1000, api.MaxDisk - 1, api.MaxDisk} {
		d := made(t, room)
		uses(t, d, 0)
		holds(t, d, 0, "", 0)
		holds(t, d, 255, "", 0)
	}
	for _, room := range []int{0, -1, math.MinInt, api.MaxDisk + 1, math.MaxInt} {
		if d, e := disk.New(room); d != nil || e != api.ErrArg {
			t.Errorf("New(%d): %v, %d", room, d, e)
		}
	}
}

func TestFilesAreEmptyAtFirst(t *testing.T) {
	d := made(t, 1)
	for file := range api.MaxFiles {
		holds(t, d, file, "", 0)
	}
}

func TestAddPutsLooseBytesBehind(t *testing.T) {
	d := made(t, 100)
	add(t, d, 0, "ab")
	add(t, d, 255, "\x00\xff")
	add(t, d, 0, "")
	add(t, d, 0, "c")
	holds(t, d, 0, "abc", 0)
	holds(t, d, 255, "\x00\xff", 0)
	holds(t, d, 1, "", 0)
	uses(t, d, 5)
	sync(t, d)
	add(t, d, 0, "de")
	holds(t, d, 0, "abcde", 3)
	holds(t, d, 255, "\x00\xff", 2)
	uses(t, d, 7)
}

func TestEveryFileIsOneOfItsOwn(t *testing.T) {
	d := made(t, 3*api.MaxFiles)
	for file := range api.MaxFiles {
		add(t, d, file, string([]byte{byte(file), 'x', byte(255 - file)}))
	}
	for file := range api.MaxFiles {
		holds(t, d, file, string([]byte{byte(file), 'x', byte(255 - file)}), 0)
	}
	uses(t, d, 3*api.MaxFiles)
	need(t, "Add on a full disk", d.Add(7, "x"), api.ErrDisk)
}

func TestAddUpToTheRoom(t *testing.T) {
	d := made(t, 10)
	add(t, d, 0, "abcde")
	add(t, d, 9, "vwxy")
	need(t, "two bytes too many by one", d.Add(0, "fg"), api.ErrDisk)
	holds(t, d, 0, "abcde", 0)
	uses(t, d, 9)
	add(t, d, 0, "f")
	uses(t, d, 10)
	need(t, "one byte more", d.Add(9, "z"), api.ErrDisk)
	need(t, "one byte more, of another file", d.Add(200, "z"), api.ErrDisk)
	add(t, d, 200, "")
	holds(t, d, 0, "abcdef", 0)
	holds(t, d, 9, "vwxy", 0)
	holds(t, d, 200, "", 0)
	uses(t, d, 10)
}

func TestAddOfMoreThanTheWholeRoom(t *testing.T) {
	d := made(t, 1)
	need(t, "two bytes", d.Add(0, "ab"), api.ErrDisk)
	uses(t, d, 0)
	add(t, d, 0, "a")
	need(t, "a second one", d.Add(0, "b"), api.ErrDisk)
	holds(t, d, 0, "a", 0)
}

func TestTheGreatestRoom(t *testing.T) {
	d := made(t, api.MaxDisk)
	add(t, d, 3, strings.Repeat("a", api.MaxDisk-1))
	need(t, "two bytes", d.Add(4, "bc"), api.ErrDisk)
	add(t, d, 4, "b")
	need(t, "one byte more", d.Add(4, "c"), api.ErrDisk)
	uses(t, d, api.MaxDisk)
}

// TestRoomOfWhatIsGone: what was trimmed, or lost, makes room; what was swapped does not.
func TestRoomOfWhatIsGone(t *testing.T) {
	d := made(t, 4)
	add(t, d, 0, "abcd")
	need(t, "Trim", d.Trim(0, 1), api.OK)
	uses(t, d, 1)
	need(t, "four bytes", d.Add(1, "1234"), api.ErrDisk)
	add(t, d, 1, "123")
	need(t, "Crash", d.Crash(nil, 0), api.OK)
	uses(t, d, 0)
	add(t, d, 2, "wxyz")
	sync(t, d)
	need(t, "Swap", d.Swap(2, 3), api.OK)
	uses(t, d, 4)
	need(t, "one byte more", d.Add(2, "v"), api.ErrDisk)
	holds(t, d, 3, "wxyz", 4)
}

// TestEachFileHasHadTheWholeRoom: the memory of what is gone is let go of, or 256 files would hold 4 GiB.
func TestEachFileHasHadTheWholeRoom(t *testing.T) {
	d := made(t, api.MaxDisk)
	all := strings.Repeat("a", api.MaxDisk)
	for file := range api.MaxFiles {
		add(t, d, file, all)
		if file%2 == 0 {
			need(t, "Trim", d.Trim(file, 0), api.OK)
		} else {
			need(t, "Crash", d.Crash(nil, 0), api.OK)
		}
		holds(t, d, file, "", 0)
	}
	runtime.GC()
	var m runtime.MemStats
	runtime.ReadMemStats(&m)
	if m.HeapAlloc > 8*api.MaxDisk {
		t.Errorf("%d bytes are held", m.HeapAlloc)
	}
	uses(t, d, 0)
}

func TestBytesWithinAFile(t *testing.T) {
	d := made(t, 100)
	all := "abcdef"
	add(t, d, 5, "abc")
	sync(t, d)
	add(t, d, 5, "def")
	for at := range len(all) + 1 {
		for n := range len(all) - at + 1 {
			if s, e := d.Bytes(5, at, n); s != all[at:at+n] || e != api.OK {
				t.Errorf("Bytes(5, %d, %d): %q, %d", at, n, s, e)
			}
		}
	}
}

func TestBytesThatAreNotThere(t *testing.T) {
	d := made(t, 100)
	add(t, d, 5, "abcdef")
	add(t, d, 255, "abcdef")
	for _, c := range [][3]int{
		{5, 0, 7}, {5, 6, 1}, {5, 7, 0}, {5, 3, 4}, {5, -1, 3}, {5, 3, -1}, {5, -1, -1}, {5, 7, -1}, {5, -1, 7},
		{5, math.MaxInt, math.MaxInt}, {5, 1, math.MaxInt}, {5, math.MaxInt, 1}, {5, math.MaxInt, 0}, {5, 0, math.MaxInt},
		{5, math.MinInt, math.MinInt}, {5, math.MinInt, 3}, {5, math.MaxInt, math.MinInt}, {5, 6, math.MinInt},
		{6, 0, 1}, {6, 1, 0}, {-1, 0, 0}, {256, 0, 0}, {math.MinInt, 0, 0}, {math.MaxInt, 0, 0}, {-1, -1, -1}, {261, 0, 3},
	} {
		if s, e := d.Bytes(c[0], c[1], c[2]); s != "" || e != api.ErrArg {
			t.Errorf("Bytes(%d, %d, %d): %q, %d", c[0], c[1], c[2], s, e)
		}
	}
	if s, e := d.Bytes(6, 0, 0); s != "" || e != api.OK {
		t.Errorf("no bytes of an empty file: %q, %d", s, e)
	}
	holds(t, d, 5, "abcdef", 0)
}

// TestBytesAreNewMemory: what was answered stays when its file is turned.
func TestBytesAreNewMemory(t *testing.T) {
	d := made(t, 100)
	add(t, d, 0, "abc")
	was, _ := d.Bytes(0, 0, 3)
	need(t, "Crash", d.Crash([]int{3}, 1), api.OK)
	need(t, "Trim", d.Trim(0, 0), api.OK)
	add(t, d, 0, "xyz")
	if was != "abc" {
		t.Errorf("%q", was)
	}
}

// TestNoSuchFile: every call that names a file, at the numbers beside those of files.
func TestNoSuchFile(t *testing.T) {
	d := made(t, 10)
	add(t, d, 0, "ab")
	add(t, d, 255, "yz")
	sync(t, d)
	for _, file := range []int{-1, 256, -256, 512, math.MinInt, math.MaxInt} {
		need(t, "Add", d.Add(file, "x"), api.ErrArg)
		need(t, "Add of nothing", d.Add(file, ""), api.ErrArg)
		need(t, "Trim", d.Trim(file, 0), api.ErrArg)
		need(t, "Swap", d.Swap(file, 0), api.ErrArg)
		need(t, "Swap", d.Swap(0, file), api.ErrArg)
		need(t, "Swap", d.Swap(file, file), api.ErrArg)
		if s, e := d.Bytes(file, 0, 0); s != "" || e != api.ErrArg {
			t.Errorf("Bytes(%d): %q, %d", file, s, e)
		}
		if n, m := d.Size(file); n != 0 || m != 0 {
			t.Errorf("Size(%d): %d, %d", file, n, m)
		}
	}
	for _, file := range []int{0, 255} {
		need(t, "Add", d.Add(file, "x"), api.OK)
		need(t, "Trim", d.Trim(file, 2), api.OK)
	}
	need(t, "Swap", d.Swap(0, 255), api.OK)
	holds(t, d, 0, "yz", 2)
	holds(t, d, 255, "ab", 2)
	uses(t, d, 4)
}

// TestTwoErrorsAtOnce: ErrArg, then ErrLoose, then ErrDisk.
func TestTwoErrorsAtOnce(t *testing.T) {
	d := made(t, 2)
	add(t, d, 0, "ab")
	need(t, "no file, and no room", d.Add(-1, "c"), api.ErrArg)
	need(t, "no file, and no room", d.Add(256, "cde"), api.ErrArg)
	need(t, "a loose file, and none", d.Swap(0, 256), api.ErrArg)
	need(t, "none, and a loose file", d.Swap(-1, 0), api.ErrArg)
	need(t, "no file, and a size below 0", d.Trim(256, -1), api.ErrArg)
	if s, e := d.Bytes(256, -1, -1); s != "" || e != api.ErrArg {
		t.Errorf("no file, at and n below 0: %q, %d", s, e)
	}
	holds(t, d, 0, "ab", 0)
}

func TestTrim(t *testing.T) {
	for size := range 7 {
		d := made(t, 10)
		add(t, d, 1, "abcd")
		add(t, d, 2, "12")
		sync(t, d)
		add(t, d, 1, "ef")
		need(t, "Trim", d.Trim(1, size), api.OK)
		holds(t, d, 1, "abcdef"[:size], min(size, 4))
		holds(t, d, 2, "12", 2)
		uses(t, d, size+2)
		add(t, d, 1, "XY")
		holds(t, d, 1, "abcdef"[:size]+"XY", min(size, 4))
		need(t, "Crash", d.Crash(nil, 0), api.OK)
		holds(t, d, 1, "abcdef"[:min(size, 4)], min(size, 4))
	}
}

func TestTrimToSizesThatMayNotBe(t *testing.T) {
	d := made(t, 10)
	add(t, d, 1, "abcd")
	sync(t, d)
	add(t, d, 1, "ef")
	for _, size := range []int{-1, 7, 10, math.MinInt, math.MaxInt} {
		need(t, "Trim", d.Trim(1, size), api.ErrArg)
	}
	holds(t, d, 1, "abcdef", 4)
	need(t, "Trim of an empty file", d.Trim(2, 1), api.ErrArg)
	need(t, "Trim of an empty file", d.Trim(2, 0), api.OK)
	holds(t, d, 2, "", 0)
	uses(t, d, 6)
}

// TestTrimIsSoAtOnce: what was trimmed away does not come back when the power fails.
func TestTrimIsSoAtOnce(t *testing.T) {
	d := made(t, 20)
	add(t, d, 1, "abcd")
	sync(t, d)
	need(t, "Trim", d.Trim(1, 2), api.OK)
	need(t, "Crash", d.Crash([]int{9}, 1), api.OK)
	holds(t, d, 1, "ab", 2)
	add(t, d, 1, "cdef")
	need(t, "Trim", d.Trim(1, 4), api.OK)
	need(t, "Crash", d.Crash([]int{2}, 0), api.OK)
	holds(t, d, 1, "abcd", 4)
}

func TestSyncMakesAllBytesSure(t *testing.T) {
	d := made(t, 20)
	sync(t, d)
	add(t, d, 0, "ab")
	add(t, d, 100, "cde")
	add(t, d, 255, "f")
	sync(t, d)
	sync(t, d)
	holds(t, d, 0, "ab", 2)
	holds(t, d, 100, "cde", 3)
	holds(t, d, 255, "f", 1)
	holds(t, d, 1, "", 0)
	uses(t, d, 6)
	need(t, "Crash", d.Crash([]int{0, 0, 0}, 255), api.OK)
	holds(t, d, 0, "ab", 2)
	holds(t, d, 100, "cde", 3)
	holds(t, d, 255, "f", 1)
}

func TestSwap(t *testing.T) {
	d := made(t, 20)
	add(t, d, 0, "ab")
	add(t, d, 9, "xyz")
	sync(t, d)
	need(t, "Swap", d.Swap(0, 9), api.OK)
	holds(t, d, 0, "xyz", 3)
	holds(t, d, 9, "ab", 2)
	uses(t, d, 5)
	need(t, "Crash", d.Crash([]int{1, 1}, 255), api.OK)
	holds(t, d, 0, "xyz", 3)
	holds(t, d, 9, "ab", 2)
	add(t, d, 0, "!")
	add(t, d, 9, "?")
	holds(t, d, 0, "xyz!", 3)
	holds(t, d, 9, "ab?", 2)
}

func TestSwapWithAnEmptyFile(t *testing.T) {
	d := made(t, 20)
	add(t, d, 9, "xyz")
	sync(t, d)
	need(t, "Swap", d.Swap(3, 9), api.OK)
	holds(t, d, 3, "xyz", 3)
	holds(t, d, 9, "", 0)
	need(t, "Swap of two empty files", d.Swap(9, 10), api.OK)
	holds(t, d, 10, "", 0)
}

func TestSwapOfAFileWithItself(t *testing.T) {
	d := made(t, 20)
	add(t, d, 9, "xyz")
	need(t, "Swap", d.Swap(9, 9), api.ErrLoose)
	holds(t, d, 9, "xyz", 0)
	sync(t, d)
	need(t, "Swap", d.Swap(9, 9), api.OK)
	holds(t, d, 9, "xyz", 3)
	need(t, "Swap of an empty file", d.Swap(8, 8), api.OK)
}

func TestSwapOfLooseBytes(t *testing.T) {
	d := made(t, 20)
	add(t, d, 0, "ab")
	add(t, d, 9, "xyz")
	sync(t, d)
	add(t, d, 9, "!")
	need(t, "Swap", d.Swap(0, 9), api.ErrLoose)
	need(t, "Swap", d.Swap(9, 0), api.ErrLoose)
	need(t, "Swap", d.Swap(9, 9), api.ErrLoose)
	holds(t, d, 0, "ab", 2)
	holds(t, d, 9, "xyz!", 3)
	add(t, d, 0, "?")
	need(t, "both loose", d.Swap(0, 9), api.ErrLoose)
	need(t, "Trim", d.Trim(0, 2), api.OK)
	need(t, "Trim", d.Trim(9, 3), api.OK)
	need(t, "Swap of what is sure again", d.Swap(0, 9), api.OK)
	holds(t, d, 0, "xyz", 3)
	holds(t, d, 9, "ab", 2)
}

// TestLooseElsewhere: loose bytes of a third file hinder no Swap.
func TestLooseElsewhere(t *testing.T) {
	d := made(t, 20)
	add(t, d, 0, "ab")
	sync(t, d)
	add(t, d, 5, "!")
	need(t, "Swap", d.Swap(0, 1), api.OK)
	holds(t, d, 1, "ab", 2)
	holds(t, d, 5, "!", 0)
}

func TestDisksThatNewDidNotGive(t *testing.T) {
	for _, d := range []*disk.Disk{nil, {}, new(disk.Disk)} {
		need(t, "Add", d.Add(0, "a"), api.ErrArg)
		need(t, "Add of nothing", d.Add(0, ""), api.ErrArg)
		need(t, "Trim", d.Trim(0, 0), api.ErrArg)
		need(t, "Sync", d.Sync(), api.ErrArg)
		need(t, "Swap", d.Swap(0, 1), api.ErrArg)
		need(t, "Crash", d.Crash(nil, 0), api.ErrArg)
		need(t, "Crash", d.Crash([]int{1}, 1), api.ErrArg)
		if s, e := d.Bytes(0, 0, 0); s != "" || e != api.ErrArg {
			t.Errorf("Bytes: %q, %d", s, e)
		}
		if n, m := d.Size(0); n != 0 || m != 0 {
			t.Errorf("Size: %d, %d", n, m)
		}
		uses(t, d, 0)
	}
}

// TestTwoDisksShareNothing: what one is asked, the other does not tell.
func TestTwoDisksShareNothing(t *testing.T) {
	a, b := made(t, 10), made(t, 10)
	add(t, a, 0, "ab")
	sync(t, a)
	add(t, b, 0, "cde")
	holds(t, a, 0, "ab", 2)
	holds(t, b, 0, "cde", 0)
	uses(t, a, 2)
	uses(t, b, 3)
}
