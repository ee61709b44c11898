package tests

import (
	"fmt"
	"math"
	"strings"
	"testing"

	"loop.example/g00753/impl"
)

// notBits are texts with something in them that is no bit, at the front, in the middle or at the end.
var notBits = []string{
	"2", "/", ":", " ", "\n", "-1", "+1", "0b1", "01 ", " 01", "0 1", "01\n", "0x1", "1_0",
	"\x00", "\x01", "0\x001", "01\x00", "\xff", "0\xff", "\xff0", "\xb0", "\xb1", "1\x80\x80",
	"٠", "١", "０", "１", "0１0", "é", "\uFFFD", "1\U000E0031", "O", "l", "I", "d", "r",
	"02", "20", "12", "21", "11112", "211111", "0120",
}

// someBits are right texts of many lengths and patterns.
func someBits() []string {
	list := []string{""}
	for _, size := range []int{1, 2, 3, 5, 31, 32, 33, 34, 63, 64, 65, 399, 400} {
		zeros := strings.Repeat("0", size)
		ones := strings.Repeat("1", size)
		list = append(list, zeros, ones, "1"+zeros[1:], "0"+ones[1:], zeros[1:]+"1", ones[1:]+"0",
			strings.Repeat("01", size)[:size], strings.Repeat("110", size)[:size], strings.Repeat("00010111", size)[:size])
	}
	return list
}

// answers calls each function of the layer and fails where one panics.
func answers(t *testing.T, s string, n, count int64) {
	t.Helper()
	mustAnswer(t, func() {
		impl.BitsOk(s)
		impl.BitsOf(n, count)
		impl.NumberOf(s)
		impl.RunOf(s)
	}, s, n, count)
}

func TestBitsLimits(t *testing.T) {
	if impl.MaxBits != 400 || impl.MaxWidth != 32 {
		t.Fatal(impl.MaxBits, impl.MaxWidth)
	}
}

func TestBitsOk(t *testing.T) {
	for _, s := range someBits() {
		if !impl.BitsOk(s) {
			t.Errorf("%q is refused", s)
		}
	}
	for _, s := range notBits {
		if impl.BitsOk(s) {
			t.Errorf("%q is accepted", s)
		}
	}
}

func TestBitsOkEachByte(t *testing.T) {
	for b := range 256 {
		want := b == '0' || b == '1'
		for _, s := range []string{string([]byte{byte(b)}), string([]byte{'1', byte(b), '0'}), string([]byte{'0', '1', byte(b)})} {
			if impl.BitsOk(s) != want {
				t.Errorf("%q: not %v", s, want)
			}
		}
	}
}

func TestBitsOkLength(t *testing.T) {
	for size, want := range map[int]bool{0: true, 1: true, 399: true, 400: true, 401: false, 402: false, 800: false, 100000: false} {
		for _, bit := range []string{"0", "1"} {
			if impl.BitsOk(strings.Repeat(bit, size)) != want {
				t.Errorf("%d times %s: not %v", size, bit, want)
			}
		}
	}
	// The last of the bits counts as the first one does.
	if impl.BitsOk(strings.Repeat("0", 399)+"2") || impl.BitsOk("2"+strings.Repeat("0", 399)) {
		t.Error("something in 400 that is no bit is accepted")
	}
}

func TestBitsOf(t *testing.T) {
	for _, c := range []struct {
		n, count int64
		want     string
	}{
		{0, 0, ""}, {0, 1, "0"}, {1, 1, "1"}, {2, 2, "10"}, {1, 2, "01"}, {11, 6, "001011"},
		{11, 4, "1011"}, {2047, 11, "11111111111"}, {1024, 11, "10000000000"}, {17817, 15, "100010110011001"},
		{0, 32, "00000000000000000000000000000000"},
		{1, 32, "00000000000000000000000000000001"},
		{2147483648, 32, "10000000000000000000000000000000"},
		{4294967295, 32, "11111111111111111111111111111111"},
		{4294967294, 32, "11111111111111111111111111111110"},
	} {
		if s, ok := impl.BitsOf(c.n, c.count); !ok || s != c.want {
			t.Errorf("%d in %d bits: %q, %v", c.n, c.count, s, ok)
		}
	}
}

func TestBitsOfEachWidth(t *testing.T) {
	for count := int64(0); count <= 32; count++ {
		most := int64(1)<<count - 1
		for _, n := range []int64{0, most / 3, most / 2, most - most/5, most} {
			want := ""
			if count > 0 {
				want = fmt.Sprintf("%0*b", int(count), n)
			}
			if s, ok := impl.BitsOf(n, count); !ok || s != want {
				t.Errorf("%d in %d bits: %q, %v, not %q", n, count, s, ok, want)
			}
		}
		for _, n := range []int64{most + 1, most + 2, 2*most + 2, math.MaxInt64} {
			if s, ok := impl.BitsOf(n, count); ok || s != "" {
				t.Errorf("%d does not fit in %d bits: %q, %v", n, count, s, ok)
			}
		}
	}
}

func TestBitsOfRefused(t *testing.T) {
	for _, count := range []int64{-1, -2, -32, -64, 33, 34, 63, 64, 65, 256, 400, 1 << 32, 1<<32 + 1, math.MaxInt64, math.MinInt64, math.MinInt64 + 1} {
		for _, n := range []int64{0, 1, -1, 5, 4294967295, 4294967296, math.MaxInt64, math.MinInt64} {
			if s, ok := impl.BitsOf(n, count); ok || s != "" {
				t.Errorf("%d in %d bits: %q, %v", n, count, s, ok)
			}
		}
	}
	for _, n := range []int64{-1, -2, -4294967296, math.MinInt64, math.MinInt64 + 1} {
		for count := int64(0); count <= 32; count++ {
			if s, ok := impl.BitsOf(n, count); ok || s != "" {
				t.Errorf("%d in %d bits: %q, %v", n, count, s, ok)
			}
		}
	}
}

func TestNumberOf(t *testing.T) {
	for s, want := range map[string]int64{
		"": 0, "0": 0, "1": 1, "10": 2, "01": 1, "001011": 11, "110100": 52, "000": 0, "100010110011001": 17817,
		"00000000000000000000000000000000": 0,
		"00000000000000000000000000000001": 1,
		"10000000000000000000000000000000": 2147483648,
		"01111111111111111111111111111111": 2147483647,
		"11111111111111111111111111111111": 4294967295,
	} {
		if n, ok := impl.NumberOf(s); !ok || n != want {
			t.Errorf("%q: %d, %v", s, n, ok)
		}
	}
}

func TestNumberOfRefused(t *testing.T) {
	refused := append([]string{}, notBits...)
	for _, size := range []int{33, 34, 63, 64, 65, 400, 401, 5000} {
		refused = append(refused, strings.Repeat("0", size), strings.Repeat("1", size), strings.Repeat("0", size-1)+"1")
	}
	refused = append(refused, strings.Repeat("1", 31)+"2", "2"+strings.Repeat("1", 31))
	for _, s := range refused {
		if n, ok := impl.NumberOf(s); ok || n != 0 {
			t.Errorf("%q: %d, %v", s, n, ok)
		}
	}
}

func TestRunOf(t *testing.T) {
	for s, want := range map[string]int64{
		"": 0, "0": 1, "1": 1, "00": 2, "11": 2, "01": 1, "10": 1, "011": 2, "100": 2, "0111": 3, "1000": 3,
		"1011": 2, "0100": 2, "11110": 1, "00001": 1, "111011": 2, "000100": 2, "0101010": 1, "00000000": 8,
	} {
		if run := impl.RunOf(s); run != want {
			t.Errorf("%q: %d, not %d", s, run, want)
		}
	}
	for _, s := range notBits {
		if run := impl.RunOf(s); run != 0 {
			t.Errorf("%q: %d", s, run)
		}
	}
}

func TestRunOfEachLength(t *testing.T) {
	for size := 1; size <= 400; size++ {
		for run := 1; run <= size; run++ {
			for _, bits := range []string{"01", "10"} {
				s := strings.Repeat(bits[:1], size-run) + strings.Repeat(bits[1:], run)
				if got := impl.RunOf(s); got != int64(run) {
					t.Fatalf("%q: %d, not %d", s, got, run)
				}
			}
		}
	}
	for _, bit := range []string{"0", "1"} {
		if run := impl.RunOf(strings.Repeat(bit, 401)); run != 0 {
			t.Errorf("401 bits: %d", run)
		}
	}
}

// Promise 1: NumberOf BitsOf is the number.
func TestPromise1(t *testing.T) {
	check := func(n, count int64) {
		t.Helper()
		s, ok := impl.BitsOf(n, count)
		if !ok || int64(len(s)) != count || !impl.BitsOk(s) {
			t.Fatalf("%d in %d bits: %q, %v", n, count, s, ok)
		}
		if back, ok := impl.NumberOf(s); !ok || back != n {
			t.Fatalf("%d in %d bits: %d, %v", n, count, back, ok)
		}
	}
	for count := int64(0); count <= 12; count++ {
		for n := int64(0); n < 1<<count; n++ {
			check(n, count)
		}
	}
	for count := int64(13); count <= 32; count++ {
		most := int64(1)<<count - 1
		for bit := int64(0); bit < count; bit++ {
			check(1<<bit, count)
			check(most-1<<bit, count)
		}
		for k := int64(0); k < 1000; k++ {
			check(k*2654435761%(most+1), count)
		}
		check(0, count)
		check(most, count)
	}
}

// And the other way round: BitsOf NumberOf are the bits.
func TestBitsOfNumberOf(t *testing.T) {
	for _, s := range someBits() {
		n, ok := impl.NumberOf(s)
		if ok != (len(s) <= 32) {
			t.Fatalf("%q: %v", s, ok)
		}
		if !ok {
			continue
		}
		if back, ok := impl.BitsOf(n, int64(len(s))); !ok || back != s {
			t.Errorf("%q: %q, %v", s, back, ok)
		}
	}
}

// Promise 20, for this layer: every function answers at every argument and none panics.
func TestBitsAnswerAtAll(t *testing.T) {
	numbers := []int64{math.MinInt64, math.MinInt64 + 1, -1 << 32, -401, -65, -64, -33, -32, -1, 0, 1, 2, 31, 32, 33, 63, 64, 65,
		400, 401, 1<<31 - 1, 1 << 31, 1<<32 - 1, 1 << 32, 1 << 62, math.MaxInt64 - 1, math.MaxInt64}
	texts := append(someBits(), notBits...)
	texts = append(texts, strings.Repeat("1", 401), strings.Repeat("0", 1<<20), strings.Repeat("é", 200), strings.Repeat("\xff", 400))
	for _, s := range texts {
		answers(t, s, 0, 0)
	}
	for _, n := range numbers {
		for _, count := range numbers {
			answers(t, "", n, count)
		}
	}
}

// Promise 20, for this layer: what is answered is the same at each call, whatever was asked ahead of it.
func TestBitsKeepNothing(t *testing.T) {
	first, _ := impl.BitsOf(11, 6)
	impl.BitsOf(52, 6)
	impl.RunOf("1111")
	again, _ := impl.BitsOf(11, 6)
	if first != "001011" || again != first || impl.RunOf("0111") != 3 || impl.RunOf("0111") != 3 {
		t.Error(first, again)
	}
}
