package tests

import (
	"math"
	"strings"
	"testing"

	"loop.example/g00753/impl"
)

// stuffedByEye stuffs in another way than the program, and without a limit: it looks at how all that is there so
// far ends. Six alike never come to be there, so an end of five alike is a whole run.
func stuffedByEye(s string) string {
	wire := ""
	for i := range s {
		wire += s[i : i+1]
		if strings.HasSuffix(wire, "00000") {
			wire += "1"
		} else if strings.HasSuffix(wire, "11111") {
			wire += "0"
		}
	}
	return wire
}

// endsInFive: are the last five bits alike?
func endsInFive(s string) bool {
	return strings.HasSuffix(s, "00000") || strings.HasSuffix(s, "11111")
}

// sixAlike: are there six bits alike, one behind the other?
func sixAlike(s string) bool {
	return strings.Contains(s, "000000") || strings.Contains(s, "111111")
}

// inverse is the text with every bit turned over.
func inverse(s string) string {
	places := make([]int, len(s))
	for i := range places {
		places[i] = i
	}
	return turnedOver(s, places...)
}

// alternating is a text of so many bits, no two neighbours alike; it begins with a 0.
func alternating(size int) string {
	return strings.Repeat("01", size)[:size]
}

// fullest is a text of so many bits into which as many are put as can be: each that is put in begins a run of five.
func fullest(size int) string {
	return ("0" + strings.Repeat("00001111", size))[:size]
}

// inRuns is a text of so many bits in runs of 1 to 12 that are alike; another seed gives other runs.
func inRuns(size int, seed uint32) string {
	text := ""
	for bit := byte('0'); len(text) < size; bit ^= 1 {
		seed = seed*1664525 + 1013904223
		text += strings.Repeat(string(bit), 1+int(seed>>16)%12)
	}
	return text[:size]
}

// stuffTexts are some texts of so many bits, with few and with many that are put in.
func stuffTexts(size int) []string {
	texts := append(textsOf(size), fullest(size), inverse(fullest(size)))
	for seed := range uint32(5) {
		texts = append(texts, inRuns(size, seed), inverse(inRuns(size, seed)))
	}
	return texts
}

// allBits calls with each text of 0 to that many bits.
func allBits(most int64, call func(s string)) {
	for size := int64(0); size <= most; size++ {
		for n := int64(0); n < 1<<size; n++ {
			s, _ := impl.BitsOf(n, size)
			call(s)
		}
	}
}

// checkStuffed fails where Stuffed does not answer want, or, where want is not bits, does not refuse.
func checkStuffed(t *testing.T, s, want string) {
	t.Helper()
	right := impl.BitsOk(s) && len(want) <= 400
	if !right {
		want = ""
	}
	if wire, ok := impl.Stuffed(s); ok != right || wire != want {
		t.Fatalf("Stuffed %q: %q, %v, not %q, %v", s, wire, ok, want, right)
	}
}

func checkUnstuffed(t *testing.T, wire, want string) {
	t.Helper()
	if s, ok := impl.Unstuffed(wire); !ok || s != want {
		t.Fatalf("Unstuffed %q: %q, %v, not %q", wire, s, ok, want)
	}
}

func checkNotUnstuffed(t *testing.T, wire string) {
	t.Helper()
	if s, ok := impl.Unstuffed(wire); ok || s != "" {
		t.Fatalf("Unstuffed %q: %q, %v", wire, s, ok)
	}
}

// stuffPairs are texts and what is made of them; each one holds with all its bits turned over, too.
var stuffPairs = [][2]string{
	{"", ""}, {"0", "0"}, {"01", "01"}, {"0011", "0011"}, {"0101010101", "0101010101"},
	// Runs of four, five, six, nine and ten: alone, at the end, at the front and in the middle.
	{"0000", "0000"}, {"00000", "000001"}, {"000000", "0000010"}, {"000000000", "0000010000"}, {"0000000000", "000001000001"},
	{"10000", "10000"}, {"100000", "1000001"}, {"1000000", "10000010"}, {"1000000000", "10000010000"}, {"10000000000", "1000001000001"},
	{"00001", "00001"}, {"000001", "0000011"}, {"0000001", "00000101"}, {"0000000001", "00000100001"}, {"00000000001", "0000010000011"},
	{"100001", "100001"}, {"1000001", "10000011"}, {"10000001", "100000101"}, {"10000000001", "100000100001"}, {"100000000001", "10000010000011"},
	// One that was put in begins a run with those behind it: of four, of five, of five again, and again.
	{"00000111", "000001111"}, {"000001110", "0000011110"},
	{"000001111", "00000111110"}, {"0000011111", "000001111101"}, {"0000011110", "000001111100"},
	{"0000011110000", "0000011111000001"}, {"00000111100001111", "000001111100000111110"},
	// Two runs that do not touch each other.
	{"00000100000", "0000011000001"}, {"0000010111110", "000001101111100"},
}

func TestStuffPairs(t *testing.T) {
	for _, pair := range stuffPairs {
		for _, p := range [][2]string{pair, {inverse(pair[0]), inverse(pair[1])}} {
			checkStuffed(t, p[0], p[1])
			checkUnstuffed(t, p[1], p[0])
		}
	}
}

func TestStuffedShort(t *testing.T) {
	allBits(14, func(s string) {
		checkStuffed(t, s, stuffedByEye(s))
	})
}

func TestStuffedEachLength(t *testing.T) {
	for size := 0; size <= 402; size++ {
		for _, s := range stuffTexts(size) {
			checkStuffed(t, s, stuffedByEye(s))
		}
	}
}

// What Stuffed makes may have 400 bits and not one more, wherever the bit that is one too many comes from.
func TestStuffedLimit(t *testing.T) {
	for _, c := range []struct {
		s    string
		bits int
	}{
		{alternating(399), 399}, {alternating(400), 400},
		// One is put in: behind the front, in the middle, at the end.
		{"11111" + alternating(394), 400}, {"11111" + alternating(395), 401},
		{alternating(200) + "000000" + alternating(193), 400}, {alternating(200) + "000000" + alternating(194), 401},
		{alternating(394) + "00000", 400}, {alternating(396) + "0000", 400}, {alternating(395) + "11111", 401},
		// As many as can be are put in.
		{fullest(320), 399}, {"1" + fullest(320), 400}, {fullest(321), 401}, {"1" + fullest(321), 402}, {fullest(400), 499},
		// All are alike.
		{strings.Repeat("0", 334), 400}, {strings.Repeat("1", 334), 400}, {strings.Repeat("0", 335), 402}, {strings.Repeat("1", 400), 480},
	} {
		if len(c.s) > 400 {
			t.Fatalf("%d bits", len(c.s))
		}
		wire, ok := impl.Stuffed(c.s)
		if ok != (c.bits <= 400) || ok && len(wire) != c.bits || !ok && wire != "" {
			t.Errorf("%q: %q, %v, not %d bits", c.s, wire, ok, c.bits)
		}
	}
	for _, size := range []int{401, 402, 500, 100000} {
		for _, s := range []string{alternating(size), strings.Repeat("0", size), strings.Repeat("1", size)} {
			if wire, ok := impl.Stuffed(s); ok || wire != "" {
				t.Errorf("%d bits: %q, %v", size, wire, ok)
			}
		}
	}
}

// Unstuffed answers where there is a text of which Stuffed makes these bits, and nowhere else.
func TestUnstuffedShort(t *testing.T) {
	made := map[string]string{}
	allBits(14, func(s string) {
		made[stuffedByEye(s)] = s
	})
	allBits(14, func(wire string) {
		if s, is := made[wire]; is {
			checkUnstuffed(t, wire, s)
		} else {
			checkNotUnstuffed(t, wire)
		}
	})
}

func TestUnstuffedRefused(t *testing.T) {
	for _, wire := range []string{
		// Five alike, and no bit behind them; in the last ones the first of the five was put in.
		"00000", "100000", "01100000", "00000100000", "0000011111", "000001111100000", "10000011111",
		// Six alike at the front, in the middle, at the end.
		"000000", "0000001", "0000000", "000000000001", "0000001010",
		"10000001", "0110000001", "1000000111", "0000010000001", "000001000000010",
		"1000000", "0101000000", "110000000", "00000111111", "000001111100000011", "000001111111",
	} {
		checkNotUnstuffed(t, wire)
		checkNotUnstuffed(t, inverse(wire))
	}
}

// Of the front of what Stuffed makes, Unstuffed tells the front of the text, but where it ends just behind five alike.
func TestUnstuffedEachFront(t *testing.T) {
	for _, s := range append(stuffTexts(320), stuffTexts(77)...) {
		wire := stuffedByEye(s)
		bits := 0
		for end := range len(wire) {
			if endsInFive(wire[:end]) {
				checkNotUnstuffed(t, wire[:end])
				checkNotUnstuffed(t, turnedOver(wire[:end+1], end))
				checkNotUnstuffed(t, turnedOver(wire, end))
				continue
			}
			checkUnstuffed(t, wire[:end], s[:bits])
			bits++
		}
		checkUnstuffed(t, wire, s)
	}
}

func TestUnstuffedLimit(t *testing.T) {
	for _, s := range []string{
		alternating(400), "11111" + alternating(394), alternating(394) + "00000", alternating(396) + "0000",
		"1" + fullest(320), strings.Repeat("0", 334), strings.Repeat("1", 334),
	} {
		wire := stuffedByEye(s)
		if len(wire) != 400 {
			t.Fatalf("%q: %d bits", s, len(wire))
		}
		checkUnstuffed(t, wire, s)
		if endsInFive(wire[:399]) {
			checkNotUnstuffed(t, wire[:399])
		} else {
			checkNotUnstuffed(t, turnedOver(wire+"1", 400))
		}
	}
	checkNotUnstuffed(t, alternating(395)+"11111")
	checkNotUnstuffed(t, "000000"+alternating(394))
	for _, s := range []string{
		alternating(401), "11111" + alternating(395), alternating(395) + "11111", fullest(321), alternating(402), alternating(100000),
	} {
		checkNotUnstuffed(t, stuffedByEye(s))
	}
}

// The two functions where one byte is none of the two: at the front, in the middle, at the end, and where one is put in.
func TestStuffEachByte(t *testing.T) {
	s := mixed(20, 7) + "00000" + mixed(15, 9)
	wire := stuffedByEye(s)
	for b := range 256 {
		if b == '0' || b == '1' {
			continue
		}
		bad := string([]byte{byte(b)})
		for _, text := range []string{s, wire} {
			for _, place := range []int{0, 1, 19, 20, 24, 25, 26, len(text) - 1} {
				wrong := text[:place] + bad + text[place+1:]
				checkStuffed(t, wrong, "")
				checkNotUnstuffed(t, wrong)
			}
		}
		for _, wrong := range []string{bad, bad + wire, wire + bad, "00000" + bad, "000001" + bad, "11111" + bad + "0"} {
			checkStuffed(t, wrong, "")
			checkNotUnstuffed(t, wrong)
		}
	}
}

func TestStuffRefused(t *testing.T) {
	for _, s := range notBits {
		for _, wrong := range []string{s, s + "0101", "0101" + s, "01" + s + "01", alternating(399) + s, s + alternating(399)} {
			checkStuffed(t, wrong, "")
			checkNotUnstuffed(t, wrong)
		}
	}
}

func TestMostStuffs(t *testing.T) {
	for n, want := range map[int64]int64{
		0: 0, 1: 0, 2: 0, 3: 0, 4: 0, 5: 1, 6: 1, 8: 1, 9: 2, 12: 2, 13: 3, 34: 8, 98: 24, 320: 79, 321: 80, 399: 99, 400: 99,
		401: -1, 402: -1, 404: -1, 405: -1, 500: -1, 1 << 32: -1, 1<<32 + 5: -1, math.MaxInt64 - 1: -1, math.MaxInt64: -1,
		-1: -1, -2: -1, -3: -1, -4: -1, -5: -1, -400: -1, -1 << 32: -1, math.MinInt64 + 1: -1, math.MinInt64: -1,
	} {
		if got := impl.MostStuffs(n); got != want {
			t.Errorf("%d: %d, not %d", n, got, want)
		}
	}
}

// It is the most: of each length there is a text into which just as many are put.
func TestMostStuffsIsMet(t *testing.T) {
	for size := 0; size <= 400; size++ {
		putIn := len(stuffedByEye(fullest(size))) - size
		if most := impl.MostStuffs(int64(size)); most != int64(putIn) {
			t.Errorf("%d bits: %d, not %d", size, most, putIn)
		}
	}
}

// Promise 3: Unstuffed of Stuffed are the bits; never are six alike; no more are put in than MostStuffs.
func checkPromise3(t *testing.T, s string) {
	t.Helper()
	wire, ok := impl.Stuffed(s)
	if !ok {
		t.Fatalf("%q: %q, %v", s, wire, ok)
	}
	if sixAlike(wire) {
		t.Fatalf("%q: six alike in %q", s, wire)
	}
	putIn, most := int64(len(wire)-len(s)), impl.MostStuffs(int64(len(s)))
	if putIn < 0 || putIn > most {
		t.Fatalf("%q: %d are put in, at most %d", s, putIn, most)
	}
	checkUnstuffed(t, wire, s)
}

func TestPromise3Short(t *testing.T) {
	allBits(14, func(s string) {
		checkPromise3(t, s)
	})
}

func TestPromise3EachLength(t *testing.T) {
	for size := 0; size <= 400; size++ {
		checkPromise3(t, alternating(size))
		for _, s := range stuffTexts(size) {
			// Up to 320 bits there is room for all that can be put in; above that it is told by the text.
			if size <= 320 || len(stuffedByEye(s)) <= 400 {
				checkPromise3(t, s)
			}
		}
	}
}

// Promise 20, for this layer: every function answers at every argument, none panics, and arguments stay.
func TestStuffAnswersAtAll(t *testing.T) {
	texts := append(someBits(), notBits...)
	for size := 0; size <= 420; size++ {
		texts = append(texts, strings.Repeat("1", size), fullest(size), strings.Repeat("x", size), strings.Repeat("\xff", size))
	}
	texts = append(texts, strings.Repeat("0", 1<<20), strings.Repeat("é", 200), strings.Repeat("\x00", 400))
	for _, s := range texts {
		before := strings.Clone(s)
		mustAnswer(t, func() {
			impl.Stuffed(s)
			impl.Unstuffed(s)
		}, s)
		if s != before {
			t.Errorf("%q has become %q", before, s)
		}
	}
	for shift := range 64 {
		for _, n := range []int64{1<<shift - 1, 1 << shift, 1<<shift + 1, -1 << shift, -1<<shift - 1} {
			mustAnswer(t, func() { impl.MostStuffs(n) }, n)
		}
	}
}

// Promise 20, for this layer: what is answered is the same at each call; a run goes on from no text to the next one.
func TestStuffKeepsNothing(t *testing.T) {
	for range 3 {
		checkStuffed(t, "0000", "0000")
		checkStuffed(t, "00000", "000001")
		checkUnstuffed(t, "0000", "0000")
		checkUnstuffed(t, "0000", "0000")
		checkNotUnstuffed(t, "00000")
		checkUnstuffed(t, "11110", "11110")
		checkStuffed(t, "0000x", "")
		checkStuffed(t, "0", "0")
		if most := impl.MostStuffs(5); most != 1 {
			t.Error(most)
		}
	}
}
