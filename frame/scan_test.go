package frame_test

import (
	"rookery/api"
	"rookery/frame"
	"slices"
	"strings"
	"testing"
)

func wantScan(t *testing.T, s string, list []string, bytes int) {
	t.Helper()
	got, n := frame.Scan(s)
	if !slices.Equal(got, list) || n != bytes {
		t.Errorf("Scan(%q, %d bytes): %d payloads, %d bytes, not %d and %d", short(s), len(s), len(got), n, len(list), bytes)
	}
}

// log is records, one behind the other, and where each of them ends.
func log(list []string) (s string, ends []int) {
	var all strings.Builder
	for _, p := range list {
		all.WriteString(record(p))
		ends = append(ends, all.Len())
	}
	return all.String(), ends
}

// Fm2
func TestScanOfNothing(t *testing.T) {
	wantScan(t, "", nil, 0)
}

// Fm2
func TestScanOfNoRecord(t *testing.T) {
	for _, s := range []string{"x", "R", "\x00", "\n", record("hi")[:10], record("hi")[1:], "x" + record("hi"), withSum("hi", 0), withHead(most+1, 0, "") + record("hi")} {
		wantScan(t, s, nil, 0)
	}
}

// Fm2
func TestScanOfOneRecord(t *testing.T) {
	for _, p := range payloads() {
		wantScan(t, record(p), []string{p}, 9+len(p))
	}
}

// Fm2: several records, of no byte and of the most among them.
func TestScanOfSeveral(t *testing.T) {
	list := payloads()
	s, ends := log(list)
	wantScan(t, s, list, ends[len(ends)-1])
	wantScan(t, s+"x"+s, list, ends[len(ends)-1])
	none := make([]string, 500)
	s, _ = log(none)
	wantScan(t, s, none, 9*500)
}

// Fm3: what Put gives, one behind the other, is scanned as what was put.
func TestScanOfWhatWasPut(t *testing.T) {
	var s string
	var list []string
	for i := range 60 {
		p := mixed(i * i)
		one, e := frame.Put(p)
		if e != api.OK {
			t.Fatal(i, e)
		}
		s, list = s+one, append(list, p)
		wantScan(t, s, list, len(s))
	}
}

// Fm3: at each place where records can be cut, those ahead of it that are whole are scanned.
func TestScanOfRecordsCutAtEachPlace(t *testing.T) {
	list := []string{"hi", "", "R", mixed(30), record("in"), "\x00\x00", "", "", mixed(300), "end"}
	s, ends := log(list)
	for cut := range len(s) + 1 {
		whole, bytes := 0, 0
		for whole < len(ends) && ends[whole] <= cut {
			bytes = ends[whole]
			whole++
		}
		wantScan(t, s[:cut], list[:whole], bytes)
	}
}

// Fm3: of the longest records, around each end.
func TestScanOfTheLongestRecordsCut(t *testing.T) {
	list := []string{mixed(most), strings.Repeat("R", most)}
	s, ends := log(list)
	for _, cut := range []int{1, 9, ends[0] - 1} {
		wantScan(t, s[:cut], nil, 0)
	}
	for _, cut := range []int{ends[0], ends[0] + 1, ends[0] + 9, ends[1] - 1} {
		wantScan(t, s[:cut], list[:1], ends[0])
	}
	wantScan(t, s, list, ends[1])
}

// Fm2: whole records behind a torn one are not scanned, whatever is torn of it.
func TestScanOfATornRecordBetweenOthers(t *testing.T) {
	ahead, behind := record("a")+record(""), record("b")+record("c")
	torn := record("torn")
	for _, between := range []string{torn[:12], torn[:9], torn[:1], torn[1:], "x", withSum("torn", 0), withHead(most+1, 0, "torn"), withHead(5, 0, "torn"), torn[:12] + "x"} {
		wantScan(t, ahead+between+behind, []string{"a", ""}, len(ahead))
		wantScan(t, between+behind, nil, 0)
		wantScan(t, ahead+between, []string{"a", ""}, len(ahead))
	}
}

// Fm3: with each byte of the middle record, but for its length, turned into each other one, the record ahead of it alone is scanned.
func TestScanWithATurnedByte(t *testing.T) {
	ahead, middle, behind := record("ahead"), record("middle"), record("behind")
	for at := range middle {
		if at >= 1 && at <= 4 {
			continue
		}
		for turn := 1; turn < 256; turn++ {
			torn := middle[:at] + string([]byte{middle[at] ^ byte(turn)}) + middle[at+1:]
			wantScan(t, ahead+torn+behind, []string{"ahead"}, len(ahead))
		}
	}
}

// R3, R4: lists are new memory, and each call answers the same.
func TestScanAnswersNewLists(t *testing.T) {
	s := record("a") + record("b")
	first, _ := frame.Scan(s)
	first[0], first[1] = "x", "y"
	_ = append(first[:1], "z")
	wantScan(t, s, []string{"a", "b"}, len(s))
}
