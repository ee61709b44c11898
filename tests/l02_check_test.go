package tests

import (
	"strings"
	"testing"

	"loop.example/g00753/impl"
)

// restOf reckons the check in another way than the chapter: 15 noughts are put behind the bits, and the
// polynomial, its highest power included, is taken away below each 1, as in long division; what is left is the check.
func restOf(s string) int64 {
	const divisor = "1100010110011001"
	row := []byte(s + strings.Repeat("0", 15))
	for i := range s {
		if row[i] == '0' {
			continue
		}
		for k := range divisor {
			if divisor[k] == '1' {
				row[i+k] ^= 1
			}
		}
	}
	rest := int64(0)
	for _, bit := range row[len(s):] {
		rest = rest*2 + int64(bit-'0')
	}
	return rest
}

// restBits is the check of the second way, in 15 bits.
func restBits(s string) string {
	rest := restOf(s)
	bits := make([]byte, 15)
	for i := range bits {
		bits[i] = '0' + byte(rest>>(14-i)&1)
	}
	return string(bits)
}

// mixed is a text of so many bits without a plain pattern; another seed gives another one.
func mixed(size int, seed uint32) string {
	bits := make([]byte, size)
	for i := range bits {
		seed = seed*1664525 + 1013904223
		bits[i] = '0' + byte(seed>>31)
	}
	return string(bits)
}

// textsOf are some texts of so many bits.
func textsOf(size int) []string {
	return []string{
		strings.Repeat("0", size), strings.Repeat("1", size), strings.Repeat("10", size)[:size],
		mixed(size, 1), mixed(size, 2026),
	}
}

// turnedOver is the text with the bits at these places turned over.
func turnedOver(s string, places ...int) string {
	bits := []byte(s)
	for _, place := range places {
		bits[place] ^= 1
	}
	return string(bits)
}

// withCheck fails where there is no WithCheck.
func withCheck(t *testing.T, s string) string {
	t.Helper()
	whole, ok := impl.WithCheck(s)
	if !ok {
		t.Fatalf("%q: %q, %v", s, whole, ok)
	}
	return whole
}

// checkAnswers calls each function of the layer and fails where one panics or changes what it is given.
func checkAnswers(t *testing.T, s string) {
	t.Helper()
	before := strings.Clone(s)
	mustAnswer(t, func() {
		impl.CheckOf(s)
		impl.WithCheck(s)
		impl.CheckRight(s)
	}, s)
	if s != before {
		t.Errorf("%q has become %q", before, s)
	}
}

func TestCheckOf(t *testing.T) {
	for s, want := range map[string]int64{
		"": 0, "0": 0, "1": 17817, "00": 0, "01": 17817, "10": 20139, "11": 2866,
		"001": 17817, "010": 20139, "011": 2866, "100": 22735, "101": 7510, "110": 5732, "111": 21501,
		"1000": 29703, "11111": 2669,
		// The bits of 123456789 as text, whose check is 59E in base 16 wherever this polynomial is used.
		"001100010011001000110011001101000011010100110110001101110011100000111001": 1438,
		strings.Repeat("0", 400): 0,
	} {
		if n := impl.CheckOf(s); n != want {
			t.Errorf("%q: %d, not %d", s, n, want)
		}
	}
}

func TestCheckOfShort(t *testing.T) {
	for size := int64(0); size <= 12; size++ {
		for n := int64(0); n < 1<<size; n++ {
			s, _ := impl.BitsOf(n, size)
			if got, want := impl.CheckOf(s), restOf(s); got != want {
				t.Fatalf("%q: %d, not %d", s, got, want)
			}
		}
	}
}

func TestCheckOfEachLength(t *testing.T) {
	for size := 0; size <= 400; size++ {
		for _, s := range textsOf(size) {
			if got, want := impl.CheckOf(s), restOf(s); got != want {
				t.Fatalf("%q: %d, not %d", s, got, want)
			}
		}
	}
}

func TestCheckOfRefused(t *testing.T) {
	refused := append([]string{}, notBits...)
	for _, size := range []int{401, 402, 415, 800, 100000} {
		refused = append(refused, strings.Repeat("0", size), strings.Repeat("1", size))
	}
	refused = append(refused, "2"+strings.Repeat("0", 399), strings.Repeat("0", 399)+"2", strings.Repeat("0", 400)+"2")
	for _, s := range refused {
		if n := impl.CheckOf(s); n != -1 {
			t.Errorf("%q: %d, not -1", s, n)
		}
	}
}

func TestWithCheck(t *testing.T) {
	for s, want := range map[string]string{
		"":   "000000000000000",
		"0":  "0000000000000000",
		"1":  "1100010110011001",
		"01": "01100010110011001",
		"10": "10100111010101011",
		"11": "11000101100110010",
	} {
		if whole, ok := impl.WithCheck(s); !ok || whole != want {
			t.Errorf("%q: %q, %v, not %q", s, whole, ok, want)
		}
	}
}

func TestWithCheckEachLength(t *testing.T) {
	for size := 0; size <= 385; size++ {
		for _, s := range textsOf(size) {
			if whole, ok := impl.WithCheck(s); !ok || whole != s+restBits(s) {
				t.Fatalf("%q: %q, %v", s, whole, ok)
			}
		}
	}
}

func TestWithCheckRefused(t *testing.T) {
	refused := append([]string{}, notBits...)
	for _, size := range []int{386, 387, 399, 400, 401, 416, 100000} {
		refused = append(refused, textsOf(size)...)
	}
	refused = append(refused, "2"+strings.Repeat("0", 384), strings.Repeat("0", 384)+"2")
	for _, s := range refused {
		if whole, ok := impl.WithCheck(s); ok || whole != "" {
			t.Errorf("%q: %q, %v", s, whole, ok)
		}
	}
}

func TestCheckRightFewBits(t *testing.T) {
	for size := int64(0); size <= 14; size++ {
		for n := int64(0); n < 1<<size; n++ {
			if s, _ := impl.BitsOf(n, size); impl.CheckRight(s) {
				t.Fatalf("%q is right", s)
			}
		}
	}
	// With 15 bits there are none ahead of the check, and it is 0; with 16 there is one.
	for size, right := range map[int64][]string{15: {"000000000000000"}, 16: {"0000000000000000", "1100010110011001"}} {
		for n := int64(0); n < 1<<size; n++ {
			s, _ := impl.BitsOf(n, size)
			want := s == right[0] || s == right[len(right)-1]
			if impl.CheckRight(s) != want {
				t.Fatalf("%q: not %v", s, want)
			}
		}
	}
}

func TestCheckRightEachLength(t *testing.T) {
	for size := 0; size <= 385; size++ {
		for _, s := range textsOf(size) {
			rest := restBits(s)
			if !impl.CheckRight(s + rest) {
				t.Fatalf("%q is not right", s+rest)
			}
			if s != "" && rest != restBits("") && impl.CheckRight(s+restBits("")) {
				t.Fatalf("%q with a check of 0 is right", s)
			}
		}
	}
	for size := 386; size <= 402; size++ {
		for _, s := range textsOf(size) {
			if impl.CheckRight(s + restBits(s)) {
				t.Errorf("%d bits with their check are right", size)
			}
		}
	}
}

// The three functions where one byte is none of the two: at the front, in the middle, at the end, and in the check.
func TestCheckEachByte(t *testing.T) {
	s := mixed(40, 7)
	whole := s + restBits(s)
	for b := range 256 {
		if b == '0' || b == '1' {
			continue
		}
		for _, place := range []int{0, 1, 20, 38, 39} {
			wrong := s[:place] + string([]byte{byte(b)}) + s[place+1:]
			if n := impl.CheckOf(wrong); n != -1 {
				t.Errorf("%q: %d, not -1", wrong, n)
			}
			if with, ok := impl.WithCheck(wrong); ok || with != "" {
				t.Errorf("%q: %q, %v", wrong, with, ok)
			}
		}
		for _, place := range []int{0, 20, 39, 40, 47, 53, 54} {
			wrong := whole[:place] + string([]byte{byte(b)}) + whole[place+1:]
			if impl.CheckRight(wrong) {
				t.Errorf("%q is right", wrong)
			}
		}
		for _, wrong := range []string{string([]byte{byte(b)}) + whole, whole + string([]byte{byte(b)})} {
			if impl.CheckRight(wrong) {
				t.Errorf("%q is right", wrong)
			}
		}
	}
}

func TestCheckRightRefused(t *testing.T) {
	for _, s := range notBits {
		for _, wrong := range []string{s, s + strings.Repeat("0", 15), strings.Repeat("0", 15) + s, strings.Repeat("0", 8) + s + strings.Repeat("0", 8)} {
			if impl.CheckRight(wrong) {
				t.Errorf("%q is right", wrong)
			}
		}
	}
	for size, want := range map[int]bool{15: true, 399: true, 400: true, 401: false, 100000: false} {
		if impl.CheckRight(strings.Repeat("0", size)) != want {
			t.Errorf("%d noughts: not %v", size, want)
		}
	}
}

// Promise 2: WithCheck is CheckRight; with one bit turned over it is not.
func TestPromise2OneBit(t *testing.T) {
	for size := 0; size <= 385; size++ {
		for _, s := range textsOf(size) {
			whole := withCheck(t, s)
			if !impl.CheckRight(whole) {
				t.Fatalf("%q is not right", whole)
			}
			for i := range whole {
				if impl.CheckRight(turnedOver(whole, i)) {
					t.Fatalf("%q is right with the bit %d turned over", whole, i)
				}
			}
		}
	}
}

// Promise 2: with two bits turned over it is not CheckRight, for all texts of at most 127 bits, check included.
func TestPromise2TwoBits(t *testing.T) {
	for size := 0; size <= 112; size++ {
		for _, s := range []string{strings.Repeat("1", size), mixed(size, 3)} {
			whole := withCheck(t, s)
			for i := range whole {
				for k := range i {
					if impl.CheckRight(turnedOver(whole, k, i)) {
						t.Fatalf("%q is right with the bits %d and %d turned over", whole, k, i)
					}
				}
			}
		}
	}
}

// With this polynomial, two bits turned over that stand 127 apart, or a multiple of it, cancel out. So in longer
// texts CheckRight, as the chapter reckons it, tells of all other pairs, and of these it cannot.
func TestCheckTwoBitsFarApart(t *testing.T) {
	for _, size := range []int{113, 385} {
		whole := withCheck(t, mixed(size, 5))
		for i := range whole {
			for k := range i {
				if impl.CheckRight(turnedOver(whole, k, i)) != ((i-k)%127 == 0) {
					t.Fatalf("%d bits, %d and %d turned over: not %v", len(whole), k, i, (i-k)%127 == 0)
				}
			}
		}
	}
}

// Promise 20, for this layer: every function answers at every argument, none panics, and arguments stay.
func TestCheckAnswersAtAll(t *testing.T) {
	texts := append(someBits(), notBits...)
	for size := 0; size <= 420; size++ {
		texts = append(texts, strings.Repeat("1", size), strings.Repeat("x", size), strings.Repeat("\xff", size))
	}
	texts = append(texts, strings.Repeat("0", 1<<20), strings.Repeat("é", 200), strings.Repeat("\x00", 400))
	for _, s := range texts {
		checkAnswers(t, s)
	}
}

// Promise 20, for this layer: what is answered is the same at each call, whatever was asked ahead of it.
func TestCheckKeepsNothing(t *testing.T) {
	for range 2 {
		if n := impl.CheckOf("11"); n != 2866 {
			t.Error(n)
		}
		if whole, ok := impl.WithCheck("1"); !ok || whole != "1100010110011001" {
			t.Error(whole, ok)
		}
		if !impl.CheckRight("1100010110011001") || impl.CheckRight("1100010110011000") {
			t.Error("right")
		}
		impl.CheckOf("1x")
		impl.WithCheck("x1")
	}
}
