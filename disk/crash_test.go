package disk_test

import (
	"math"
	"rookery/api"
	"rookery/disk"
	"slices"
	"testing"
)

// torn is a disk of three files that have loose bytes, and two that have none.
func torn(t *testing.T) *disk.Disk {
	t.Helper()
	d := made(t, 100)
	add(t, d, 3, "sure")
	add(t, d, 7, "ab")
	sync(t, d)
	add(t, d, 7, "cde")
	add(t, d, 0, "wxyz")
	add(t, d, 255, "1")
	return d
}

func TestCrashOfTheChaptersExample(t *testing.T) {
	d := made(t, 100)
	add(t, d, 0, "ab")
	sync(t, d)
	add(t, d, 0, "cde")
	need(t, "Crash", d.Crash([]int{2}, 1), api.OK)
	holds(t, d, 0, "abce", 4)
	uses(t, d, 4)
}

// TestCrashCountsOnlyLooseFiles: keep's numbers go to the files with loose bytes, by the files' numbers.
func TestCrashCountsOnlyLooseFiles(t *testing.T) {
	d := torn(t)
	need(t, "Crash", d.Crash([]int{3, 1, 1}, 3), api.OK)
	holds(t, d, 0, "wxz", 3) // of w, x, y: y ^ 3 is z
	holds(t, d, 3, "sure", 4)
	holds(t, d, 7, "ab`", 3) // c ^ 3
	holds(t, d, 255, "2", 1) // 1 ^ 3
	uses(t, d, 11)
}

func TestCrashWithFewerNumbersThanFiles(t *testing.T) {
	for _, keep := range [][]int{nil, {}} {
		d := torn(t)
		need(t, "Crash", d.Crash(keep, 1), api.OK)
		holds(t, d, 0, "", 0)
		holds(t, d, 3, "sure", 4)
		holds(t, d, 7, "ab", 2)
		holds(t, d, 255, "", 0)
		uses(t, d, 6)
	}
	d := torn(t)
	need(t, "Crash", d.Crash([]int{4, 3}, 0), api.OK)
	holds(t, d, 0, "wxyz", 4)
	holds(t, d, 7, "abcde", 5)
	holds(t, d, 255, "", 0)
	uses(t, d, 13)
}

func TestCrashWithMoreNumbersThanFiles(t *testing.T) {
	d := torn(t)
	need(t, "Crash", d.Crash([]int{1, 2, 1, 1, 1, 1}, 0), api.OK)
	holds(t, d, 0, "w", 1)
	holds(t, d, 7, "abcd", 4)
	holds(t, d, 255, "1", 1)
	holds(t, d, 3, "sure", 4)
	for _, file := range []int{1, 2, 4, 8, 254} {
		holds(t, d, file, "", 0)
	}
}

// TestCrashReadsNoRoomBehindKeep: what lies behind a list's end is none of its numbers.
func TestCrashReadsNoRoomBehindKeep(t *testing.T) {
	d := torn(t)
	keep := []int{4, 3, 1}
	need(t, "Crash", d.Crash(keep[:1], 9), api.OK)
	holds(t, d, 0, "wxys", 4) // z ^ 9 is s
	holds(t, d, 7, "ab", 2)
	holds(t, d, 255, "", 0)
	if !slices.Equal(keep, []int{4, 3, 1}) {
		t.Error("keep was changed", keep)
	}
}

// TestCrashTakesKeepModulo: how many bytes of four loose ones are kept.
func TestCrashTakesKeepModulo(t *testing.T) {
	for _, c := range [][2]int{
		{0, 0}, {1, 1}, {3, 3}, {4, 4}, {5, 0}, {6, 1}, {9, 4}, {10, 0}, {14, 4},
		{math.MaxInt, math.MaxInt % 5}, {math.MaxInt - 1, (math.MaxInt - 1) % 5},
		{-1, 0}, {-2, 0}, {-4, 0}, {-5, 0}, {math.MinInt, 0}, {math.MinInt + 1, 0},
	} {
		d := made(t, 100)
		add(t, d, 5, "ab")
		sync(t, d)
		add(t, d, 5, "cdef")
		need(t, "Crash", d.Crash([]int{c[0]}, 0), api.OK)
		holds(t, d, 5, "abcdef"[:2+c[1]], 2+c[1])
		uses(t, d, 2+c[1])
	}
}

// TestCrashBelowZeroTakesItsPlace: a number below 0 is its file's, not the next one's.
func TestCrashBelowZeroTakesItsPlace(t *testing.T) {
	d := torn(t)
	need(t, "Crash", d.Crash([]int{-1, 2, -7}, 0), api.OK)
	holds(t, d, 0, "", 0)
	holds(t, d, 7, "abcd", 4)
	holds(t, d, 255, "", 0)
}

func TestCrashTurnsByTheLowestEightBits(t *testing.T) {
	for _, c := range []struct {
		turn int
		by   byte
	}{
		{0, 0}, {1, 1}, {255, 255}, {256, 0}, {257, 1}, {511, 255}, {1 << 40, 0}, {-1, 255}, {-2, 254}, {-256, 0}, {-257, 255},
		{math.MaxInt, 255}, {math.MinInt, 0}, {math.MinInt + 7, 7}, {128, 128},
	} {
		d := made(t, 100)
		add(t, d, 5, "ab")
		sync(t, d)
		add(t, d, 5, "cdef")
		need(t, "Crash", d.Crash([]int{3}, c.turn), api.OK)
		holds(t, d, 5, "abcd"+string([]byte{'e' ^ c.by}), 5)
	}
}

// TestCrashThatKeepsNoneTurnsNone: a file's last sure byte is not turned.
func TestCrashThatKeepsNoneTurnsNone(t *testing.T) {
	d := made(t, 100)
	add(t, d, 5, "ab")
	sync(t, d)
	add(t, d, 5, "cd")
	need(t, "Crash", d.Crash([]int{3}, 255), api.OK)
	holds(t, d, 5, "ab", 2)
	need(t, "Crash of what is sure", d.Crash([]int{1}, 255), api.OK)
	holds(t, d, 5, "ab", 2)
}

func TestCrashMakesAllSure(t *testing.T) {
	d := torn(t)
	need(t, "Crash", d.Crash([]int{4, 3, 1}, 0), api.OK)
	need(t, "Swap of what was kept", d.Swap(0, 7), api.OK)
	need(t, "Crash", d.Crash([]int{0, 0, 0}, 255), api.OK)
	holds(t, d, 0, "abcde", 5)
	holds(t, d, 7, "wxyz", 4)
	holds(t, d, 255, "1", 1)
	add(t, d, 7, "!")
	holds(t, d, 7, "wxyz!", 4)
}

func TestCrashOfAnEmptyDisk(t *testing.T) {
	d := made(t, 1)
	need(t, "Crash", d.Crash([]int{1, 2, 3}, 1), api.OK)
	uses(t, d, 0)
}

// plainFile is a file by the chapter's words: its bytes, and how many are sure.
type plainFile struct {
	bytes string
	sure  int
}

// crash is what Di3 says of one file with loose bytes.
func (f *plainFile) crash(keep, turn int) {
	kept := 0
	if keep >= 0 {
		kept = keep % (len(f.bytes) - f.sure + 1)
	}
	b := []byte(f.bytes[:f.sure+kept])
	if kept > 0 {
		b[len(b)-1] ^= byte(turn)
	}
	*f = plainFile{string(b), len(b)}
}

// draws are numbers that look like no row; the same ones from each beginning.
func draws(n uint32) func(below int) int {
	return func(below int) int {
		n = n*1664525 + 1013904223
		return int(n>>8) % below
	}
}

// TestLikeAPlainDisk: many calls of all kinds, held against plain strings; and what was sure survives each crash (Di4).
func TestLikeAPlainDisk(t *testing.T) {
	for seed := range uint32(20) {
		draw := draws(seed)
		room := 1 + draw(300)
		d := made(t, room)
		plain := map[int]*plainFile{0: {}, 1: {}, 17: {}, 254: {}, 255: {}}
		numbers := []int{0, 1, 17, 254, 255}
		used := func() (n int) {
			for _, f := range plain {
				n += len(f.bytes)
			}
			return n
		}
		for range 400 {
			a, b := numbers[draw(5)], numbers[draw(5)]
			f := plain[a]
			switch draw(10) {
			case 0, 1, 2, 3, 4:
				s := string(make([]byte, draw(9))) + string([]byte{byte(draw(256))})
				want := api.OK
				if used()+len(s) > room {
					want = api.ErrDisk
				} else {
					f.bytes += s
				}
				need(t, "Add", d.Add(a, s), want)
			case 5:
				size, want := draw(len(f.bytes)+3), api.OK
				if size > len(f.bytes) {
					want = api.ErrArg
				} else {
					*f = plainFile{f.bytes[:size], min(f.sure, size)}
				}
				need(t, "Trim", d.Trim(a, size), want)
			case 6:
				sync(t, d)
				for _, f := range plain {
					f.sure = len(f.bytes)
				}
			case 7, 8:
				want := api.OK
				if g := plain[b]; f.sure < len(f.bytes) || g.sure < len(g.bytes) {
					want = api.ErrLoose
				} else {
					*f, *g = *g, *f
				}
				need(t, "Swap", d.Swap(a, b), want)
			case 9:
				keep := []int{draw(9) - 1, draw(40), draw(9) - 1}
				turn := draw(600) - 300
				need(t, "Crash", d.Crash(keep, turn), api.OK)
				k := 0
				for _, i := range numbers {
					was := *plain[i]
					if was.sure == len(was.bytes) {
						continue
					}
					most := -1
					if k < len(keep) {
						most = keep[k]
					}
					k++
					plain[i].crash(most, turn)
					survives(t, d, i, was.bytes, was.sure)
				}
			}
			for _, i := range numbers {
				holds(t, d, i, plain[i].bytes, plain[i].sure)
			}
			uses(t, d, used())
		}
	}
}

// survives asks Di4 of a file that crashed: its sure bytes are there; of the others a beginning is, but for its last byte.
func survives(t *testing.T, d *disk.Disk, file int, was string, sure int) {
	t.Helper()
	n, m := d.Size(file)
	s, e := d.Bytes(file, 0, n)
	if e != api.OK || m != n || n < sure || n > len(was) {
		t.Errorf("file %d: %d bytes, %d sure, %d; %d of %d were sure", file, n, m, e, sure, len(was))
		return
	}
	same := max(n-1, sure)
	if s[:same] != was[:same] {
		t.Errorf("file %d: %q of %q, of which %d were sure", file, s, was, sure)
	}
}

// TestWhatWasSyncedSurvives: whatever is kept and turned, of every split into sure and loose bytes (Di4).
func TestWhatWasSyncedSurvives(t *testing.T) {
	const text = "abcdefgh"
	for sure := range len(text) + 1 {
		for keep := -2; keep < 12; keep++ {
			for _, turn := range []int{0, 1, 2, 128, 255, 256, -1} {
				d := made(t, 100)
				add(t, d, 4, text[:sure])
				add(t, d, 9, text)
				sync(t, d)
				add(t, d, 4, text[sure:])
				need(t, "Crash", d.Crash([]int{keep}, turn), api.OK)
				survives(t, d, 4, text, sure)
				survives(t, d, 9, text, len(text))
				need(t, "Crash again", d.Crash([]int{1, 1}, 255), api.OK)
				survives(t, d, 4, text, sure)
				survives(t, d, 9, text, len(text))
			}
		}
	}
}
