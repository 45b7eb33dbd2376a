package bits_test

import (
	"math"
	"rookery/api"
	"rookery/bits"
	"strings"
	"testing"
)

// numbers are those next to each place where one more byte is taken, of either form, and some others.
func numbers() []int {
	list := []int{0, 1, 2, 127, 128, 300, math.MaxInt - 1, math.MaxInt}
	for k := range 63 {
		p := 1 << k
		list = append(list, p-1, p, p+1)
	}
	return list
}

// tails are bytes that may stand behind what was put.
func tails() []string {
	return []string{"", "\x00", "\x01", "\x7f", "\x80", "\xff", "\x80\x00", "é", strings.Repeat("\xff", 20)}
}

func wantVar(t *testing.T, s string, n, size int, e api.Errno) {
	t.Helper()
	if gotN, gotSize, gotE := bits.Var(s); gotN != n || gotSize != size || gotE != e {
		t.Errorf("Var(%q): %d, %d, %d, not %d, %d, %d", s, gotN, gotSize, gotE, n, size, e)
	}
}

func wantFixed(t *testing.T, s string, size, n int, e api.Errno) {
	t.Helper()
	if gotN, gotE := bits.Fixed(s, size); gotN != n || gotE != e {
		t.Errorf("Fixed(%q, %d): %d, %d, not %d, %d", s, size, gotN, gotE, n, e)
	}
}

func wantPutFixed(t *testing.T, n, size int, s string, e api.Errno) {
	t.Helper()
	if gotS, gotE := bits.PutFixed(n, size); gotS != s || gotE != e {
		t.Errorf("PutFixed(%d, %d): %q, %d, not %q, %d", n, size, gotS, gotE, s, e)
	}
}

// Bi1
func TestVarOfKnownBytes(t *testing.T) {
	cases := []struct {
		n int
		s string
	}{
		{0, "\x00"},
		{1, "\x01"},
		{127, "\x7f"},
		{128, "\x80\x01"},
		{255, "\xff\x01"},
		{300, "\xac\x02"},
		{16383, "\xff\x7f"},
		{16384, "\x80\x80\x01"},
		{1 << 21, "\x80\x80\x80\x01"},
		{1<<56 - 1, strings.Repeat("\xff", 7) + "\x7f"},
		{1 << 56, strings.Repeat("\x80", 8) + "\x01"},
		{1 << 62, strings.Repeat("\x80", 8) + "\x40"},
		{math.MaxInt, strings.Repeat("\xff", 8) + "\x7f"},
	}
	for _, c := range cases {
		if s, e := bits.PutVar(c.n); s != c.s || e != api.OK {
			t.Errorf("PutVar(%d): %q, %d", c.n, s, e)
		}
		wantVar(t, c.s, c.n, len(c.s), api.OK)
	}
}

// Bi1
func TestPutVarRefusesNumbersBelow0(t *testing.T) {
	for _, n := range []int{-1, -127, -128, -300, math.MinInt} {
		if s, e := bits.PutVar(n); s != "" || e != api.ErrArg {
			t.Errorf("PutVar(%d): %q, %d", n, s, e)
		}
	}
}

// Bi1
func TestVarRefusesBytesWithoutAnEnd(t *testing.T) {
	for _, b := range []string{"\x80", "\x81", "\xac", "\xff"} {
		for k := range 9 {
			wantVar(t, strings.Repeat(b, k), 0, 0, api.ErrShort)
		}
		for k := 9; k < 20; k++ {
			wantVar(t, strings.Repeat(b, k), 0, 0, api.ErrBits)
			wantVar(t, strings.Repeat(b, k)+"\x00", 0, 0, api.ErrBits)
			wantVar(t, strings.Repeat(b, k)+"\x01", 0, 0, api.ErrBits)
		}
	}
}

// Bi1
func TestVarRefusesALast0ThatIsNotTheOnlyByte(t *testing.T) {
	for _, b := range []string{"\x80", "\x81", "\xff"} {
		for k := 1; k <= 8; k++ {
			for _, tail := range tails() {
				wantVar(t, strings.Repeat(b, k)+"\x00"+tail, 0, 0, api.ErrBits)
			}
		}
	}
	wantVar(t, "\x00\x00", 0, 1, api.OK)
	wantVar(t, "\x80\x80\x01\x00", 16384, 3, api.OK)
}

// Bi1
func TestPutFixedAndFixedOfKnownBytes(t *testing.T) {
	cases := []struct {
		n, size int
		s       string
	}{
		{0, 1, "\x00"},
		{255, 1, "\xff"},
		{256, 2, "\x00\x01"},
		{258, 3, "\x02\x01\x00"},
		{0, 8, "\x00\x00\x00\x00\x00\x00\x00\x00"},
		{0x0807060504030201, 8, "\x01\x02\x03\x04\x05\x06\x07\x08"},
		{math.MaxInt, 8, "\xff\xff\xff\xff\xff\xff\xff\x7f"},
	}
	for _, c := range cases {
		wantPutFixed(t, c.n, c.size, c.s, api.OK)
		wantFixed(t, c.s, c.size, c.n, api.OK)
	}
	wantFixed(t, "\x01\x02\x03", 1, 1, api.OK)
	wantFixed(t, "\x01\x02\x03", 2, 513, api.OK)
}

// Bi1
func TestPutFixedRefusesWhatDoesNotFit(t *testing.T) {
	for size := 1; size <= 7; size++ {
		first := 1 << (8 * size)
		wantPutFixed(t, first-1, size, strings.Repeat("\xff", size), api.OK)
		wantPutFixed(t, first, size, "", api.ErrArg)
		wantPutFixed(t, math.MaxInt, size, "", api.ErrArg)
	}
	for size := 1; size <= 8; size++ {
		wantPutFixed(t, 0, size, strings.Repeat("\x00", size), api.OK)
		wantPutFixed(t, -1, size, "", api.ErrArg)
		wantPutFixed(t, math.MinInt, size, "", api.ErrArg)
	}
}

// Bi1
func TestFixedSizesThatMayNotBe(t *testing.T) {
	for _, size := range []int{math.MinInt, -8, -1, 0, 9, 64, math.MaxInt} {
		for _, n := range []int{-1, 0, 1, math.MaxInt} {
			wantPutFixed(t, n, size, "", api.ErrArg)
		}
		for _, s := range []string{"", "\x01", strings.Repeat("\x01", 100)} {
			wantFixed(t, s, size, 0, api.ErrArg)
		}
	}
}

// Bi1
func TestFixedRefusesTooFewBytes(t *testing.T) {
	for size := 1; size <= 8; size++ {
		for k := range size {
			wantFixed(t, strings.Repeat("\xff", k), size, 0, api.ErrShort)
		}
	}
}

// Bi1
func TestFixedRefusesNumbersFrom2To63On(t *testing.T) {
	for _, s := range []string{"\x00\x00\x00\x00\x00\x00\x00\x80", "\xff\xff\xff\xff\xff\xff\xff\xff", "\x01\x00\x00\x00\x00\x00\x00\x80"} {
		wantFixed(t, s, 8, 0, api.ErrBits)
		wantFixed(t, s+"\x00", 8, 0, api.ErrBits)
	}
	for size := 1; size <= 7; size++ {
		wantFixed(t, strings.Repeat("\xff", 8), size, 1<<(8*size)-1, api.OK)
	}
}

// Bi3
func TestNumbersAreReadBackWhateverStandsBehind(t *testing.T) {
	for _, n := range numbers() {
		s, e := bits.PutVar(n)
		if e != api.OK {
			t.Fatalf("PutVar(%d): %d", n, e)
		}
		for _, tail := range tails() {
			wantVar(t, s+tail, n, len(s), api.OK)
		}
		for size := 1; size <= 8; size++ {
			f, e := bits.PutFixed(n, size)
			if fits := size == 8 || n < 1<<(8*size); fits != (e == api.OK) {
				t.Errorf("PutFixed(%d, %d): %d", n, size, e)
			}
			for _, tail := range tails() {
				if e == api.OK {
					wantFixed(t, f+tail, size, n, api.OK)
				}
			}
		}
	}
}

// Bi3
func TestNoTwoNumbersHaveTheSameBytes(t *testing.T) {
	seen := map[string]int{}
	for _, n := range numbers() {
		s, _ := bits.PutVar(n)
		if m, there := seen[s]; there && m != n {
			t.Errorf("%d and %d are both %q", n, m, s)
		}
		seen[s] = n
	}
}

// Bi3: whatever bytes are read as a number are those that it is put as.
func TestNoOtherBytesAreReadAsANumber(t *testing.T) {
	check := func(s string) {
		n, size, e := bits.Var(s)
		if e != api.OK {
			if n != 0 || size != 0 {
				t.Errorf("Var(%q): %d, %d beside %d", s, n, size, e)
			}
			return
		}
		if p, _ := bits.PutVar(n); p != s[:size] {
			t.Errorf("%q is read as %d, which is put as %q", s[:size], n, p)
		}
	}
	for a := range 256 {
		for b := range 256 {
			check(string([]byte{byte(a), byte(b)}))
			for _, c := range []byte{0, 1, 127, 128, 129, 255} {
				check(string([]byte{byte(a), byte(b), c}))
			}
		}
	}
}
