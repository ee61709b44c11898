package tests

import (
	"regexp"
	"slices"
	"strconv"
	"strings"
	"testing"

	"loop.example/g00753/impl"
)

var headAndMore = regexp.MustCompile(`\A[01]{19,400}\z`)

func numberByEye(bits string) int64 {
	n, _ := strconv.ParseInt(bits, 2, 64)
	return n
}

// needByEye tells the need in another way than the program.
func needByEye(s string) int64 {
	switch {
	case !headAndMore.MatchString(s):
		return -1
	case s[12] == '1':
		return 34
	case s[15:19] > "0111":
		return 98
	}
	return 34 + 8*numberByEye(s[16:19])
}

// readByEye reads in another way than the program.
func readByEye(s string) (impl.Frame, int64) {
	need := needByEye(s)
	switch {
	case need == -1:
		return impl.Frame{}, 1
	case int64(len(s)) != need:
		return impl.Frame{}, 2
	case s[need-15:] != restBits(s[:need-15]):
		return impl.Frame{}, 3
	case s[0] == '1' || s[13] == '1' || s[14] == '1':
		return impl.Frame{}, 4
	case s[15:19] > "1000":
		return impl.Frame{}, 5
	}
	f := frameOf(s[1:12] + s[19:need-15])
	f.Remote, f.Len = s[12] == '1', numberByEye(s[15:19])
	return f, 0
}

// checkNeed fails where NeedOf is not want.
func checkNeed(t *testing.T, s string, want int64) {
	t.Helper()
	if need := impl.NeedOf(s); need != want {
		t.Fatalf("NeedOf %q: %d, not %d", s, need, want)
	}
}

// checkReadAs fails where what is read is not this frame, with this code; all fields count.
func checkReadAs(t *testing.T, s string, want impl.Frame, code int64) {
	t.Helper()
	if f, k := impl.ReadFrame(s); k != code || !slices.Equal(flat(f), flat(want)) {
		t.Fatalf("ReadFrame %q: %+v, %d, not %+v, %d", s, f, k, want, code)
	}
}

// checkNotRead fails where the code is another one, or the frame beside it is not the zero Frame.
func checkNotRead(t *testing.T, s string, code int64) {
	t.Helper()
	checkReadAs(t, s, impl.Frame{}, code)
}

// checkRead fails where the two functions do not answer as they do in the other way; it tells the code.
func checkRead(t *testing.T, s string) int64 {
	t.Helper()
	checkNeed(t, s, needByEye(s))
	want, code := readByEye(s)
	checkReadAs(t, s, want, code)
	return code
}

// checked is the text with its check behind it, reckoned in the second way.
func checked(s string) string {
	return s + restBits(s)
}

// eachHead calls with heads of all kinds: each way in which the eight bits may stand that are not of the Id, with
// several Ids; 13 and 14 may be 1, and the size up to 15.
func eachHead(call func(head string)) {
	for _, id := range []string{"00000000000", "00000000001", "01010101010", "10000000000", "11111011111", "11111111111"} {
		allBits(8, func(s string) {
			if len(s) == 8 {
				call(s[:1] + id + s[1:])
			}
		})
	}
}

// headByEye is a head of any Len from 0 to 15; form are the bits 0, 13 and 14.
func headByEye(f impl.Frame, form string) string {
	head := bodyByEye(f)[:19]
	return form[:1] + head[1:13] + form[1:] + head[15:]
}

func TestReadCodes(t *testing.T) {
	codes := []int64{impl.RdOk, impl.RdBits, impl.RdSize, impl.RdCheck, impl.RdForm, impl.RdLen}
	if !slices.Equal(codes, []int64{0, 1, 2, 3, 4, 5}) {
		t.Fatal(codes)
	}
}

func TestNeedOfByHand(t *testing.T) {
	zeros := strings.Repeat("0", 400)
	for s, want := range map[string]int64{
		// 18 bits and 19.
		zeros[:18]: -1, zeros[:19]: 34, "": -1, "0": -1, "01": -1, "011111111111000100": -1, "0111111111110001000": 98,
		// Each Len from 0 to 8, and from 9 to 15; remote, with some of these.
		"0000000000000000001": 42, "0000000000000000010": 50, "0000000000000000011": 58, "0000000000000000100": 66,
		"0000000000000000101": 74, "0000000000000000110": 82, "0000000000000000111": 90, "0000000000000001000": 98,
		"0000000000000001001": 98, "0000000000000001010": 98, "0000000000000001011": 98, "0000000000000001100": 98,
		"0000000000000001101": 98, "0000000000000001110": 98, "0000000000000001111": 98,
		"0000000000001000000": 34, "0000000000001000001": 34, "0000000000001001000": 34, "0000000000001001001": 34,
		"0000000000001001111": 34, "1111111111111111111": 34,
		// The other bits of the head do not count, nor those behind it.
		"1111111111110110000": 34, "1111111111110110011": 58, "1000000000000000001": 42, "0000000000000100001": 42,
		"0000000000000010001": 42, "00000000000000000001": 34, "0000000000000000000111111": 34, "00000000000000000011": 42,
		// 400 bits and 401.
		zeros: 34, zeros + "0": -1, "0000000000000001000" + zeros[:381]: 98, "0000000000000001000" + zeros[:382]: -1,
	} {
		checkNeed(t, s, want)
	}
}

func TestNeedOfEachHead(t *testing.T) {
	eachHead(func(head string) {
		want := needByEye(head)
		checkNeed(t, head, want)
		checkNeed(t, head[:18], -1)
		for _, behind := range []string{"0", "1", mixed(79, 4), strings.Repeat("1", 381)} {
			checkNeed(t, head+behind, want)
		}
		checkNeed(t, head+strings.Repeat("1", 382), -1)
	})
}

func TestNeedOfEachLength(t *testing.T) {
	for size := range 500 {
		for _, s := range append(textsOf(size), inRuns(size, 9)) {
			need := impl.NeedOf(s)
			checkNeed(t, s, needByEye(s))
			if told := size >= 19 && size <= 400; told != (need != -1) {
				t.Fatalf("%d bits: %d", size, need)
			}
		}
	}
}

func TestReadsByHand(t *testing.T) {
	for _, c := range []struct {
		s string
		f impl.Frame
	}{
		// Even the zero Frame can be read.
		{"0000000000000000000" + "000000000000000", impl.Frame{}},
		{"0111111111110000000" + "010011100101111", dataFrame(2047)},
		{"0000000000001000000" + "111001111000101", remoteFrame(0, 0)},
		{"0111111111111001000" + "010000011101101", remoteFrame(2047, 8)},
		{"0101010101011000111" + "100011101110100", remoteFrame(1365, 7)},
		{"0000000000000000001" + "11111111" + "100010010110011", dataFrame(0, 255)},
		{"0111111111110000001" + "00000000" + "111101010000000", dataFrame(2047, 0)},
		{"0000000000110000011" + "000000011000000011111110" + "111101000000110", dataFrame(3, 1, 128, 254)},
		{"0000011001000001000" + "0000000100000010000001000000100000010000001000000100000010000000" + "011100011001110",
			dataFrame(100, 1, 2, 4, 8, 16, 32, 64, 128)},
		{"0111111111110001000" + strings.Repeat("1", 64) + "100110010001001", dataFrame(2047, 255, 255, 255, 255, 255, 255, 255, 255)},
	} {
		checkReadAs(t, c.s, c.f, impl.RdOk)
		checkNeed(t, c.s, int64(len(c.s)))
	}
}

func TestMisreadsByHand(t *testing.T) {
	zeros := strings.Repeat("0", 400)
	for _, c := range []struct {
		s    string
		code int64
	}{
		{"", impl.RdBits}, {"0", impl.RdBits}, {zeros[:18], impl.RdBits}, {zeros + "0", impl.RdBits}, {zeros[:33] + "2", impl.RdBits},
		{zeros[:19], impl.RdSize}, {zeros[:33], impl.RdSize}, {zeros[:35], impl.RdSize}, {zeros, impl.RdSize},
		// The check is right, but there is a byte too many, or one too few.
		{zeros[:42], impl.RdSize}, {checked("0000000000000000001"), impl.RdSize},
		{"0000000000001001000" + "00000000" + restBits("000000000000100100000000000"), impl.RdSize},
		{"0000000000000000000" + "000000000000001", impl.RdCheck}, {"0111111111110000000" + "010011100101110", impl.RdCheck},
		{"1000000000000000000" + "100101101100010", impl.RdForm}, {"0000000000000100000" + "101101100101110", impl.RdForm},
		{"0000000000000010000" + "010110110010111", impl.RdForm}, {"1111111111111111000" + "001110100110110", impl.RdForm},
		{"1001001000110000001" + "00010010" + "111100010111011", impl.RdForm},
		{"0000000000000001001" + zeros[:64] + "011111100000101", impl.RdLen},
		{"0111111111110001111" + strings.Repeat("1", 64) + "101100110001010", impl.RdLen},
		{"0000000001011001001" + "010110110011101", impl.RdLen}, {"0111111111111001111" + "111001100010000", impl.RdLen},
		// A Len of 9 with nine bytes: that is more than is needed.
		{"0000000000000001001" + zeros[:72] + "110001000011111", impl.RdSize},
		// Of two that apply the one named first.
		{"0000000001011011001" + "000000000001010", impl.RdForm},
		{"1000000001010001100" + strings.Repeat("00000001", 8) + "010010100101000", impl.RdForm},
		{"1000000001010001100" + strings.Repeat("00000001", 8) + "010010100101001", impl.RdCheck},
		{"0000000001011001001" + "010110110011100", impl.RdCheck}, {"1000000000000000000" + "100101101100011", impl.RdCheck},
		{"0000000001011001001" + "01011011001110", impl.RdSize}, {"1000000000000000000" + "1001011011000100", impl.RdSize},
		{"1000000000000000000", impl.RdSize}, {"111111111111111111", impl.RdBits}, {"1000000000000000000" + "10010110110001x", impl.RdBits},
	} {
		checkNotRead(t, c.s, c.code)
	}
}

func TestReadRight(t *testing.T) {
	manyFrames(func(f impl.Frame) {
		s := checked(bodyByEye(f))
		checkReadAs(t, s, f, impl.RdOk)
		checkNeed(t, s, int64(len(s)))
		checkRead(t, s)
	})
}

// Each Id that there is, without a byte, with some, and remote with each Len there is: no byte is read of that one.
func TestReadEachId(t *testing.T) {
	for id := range int64(2048) {
		for _, f := range []impl.Frame{dataFrame(id), dataFrame(id, 0, 255), dataFrame(id, someBytes(8, uint32(id))...)} {
			checkReadAs(t, checked(bodyByEye(f)), f, impl.RdOk)
		}
		for size := range int64(16) {
			f := remoteFrame(id, size)
			s := checked(bodyByEye(f))
			checkNeed(t, s, 34)
			if size > 8 {
				checkNotRead(t, s, impl.RdLen)
			} else {
				checkReadAs(t, s, f, impl.RdOk)
			}
		}
	}
}

// Each byte that there is: alone and at each place of eight.
func TestReadEachByte(t *testing.T) {
	for b := range int64(256) {
		f := dataFrame(2047, b)
		checkReadAs(t, checked(bodyByEye(f)), f, impl.RdOk)
		for place := range 8 {
			f = changedAt(dataFrame(9, someBytes(8, 11)...), place, b)
			checkReadAs(t, checked(bodyByEye(f)), f, impl.RdOk)
		}
	}
}

// Each kind of head with as many bits behind it as are needed, and a right check.
func TestReadEachHead(t *testing.T) {
	met := map[int64]int{}
	eachHead(func(head string) {
		rest := int(needByEye(head)) - 34
		for _, data := range []string{strings.Repeat("0", rest), strings.Repeat("1", rest), mixed(rest, 1), mixed(rest, 2026)} {
			met[checkRead(t, checked(head+data))]++
		}
	})
	// Of 256 heads of one Id there is one in eight of a right form; the two kinds of frame have 9 right sizes each.
	if met[impl.RdOk] != 6*18*4 || met[impl.RdLen] != 6*14*4 || met[impl.RdForm] != 6*224*4 || len(met) != 3 {
		t.Error(met)
	}
}

// More and fewer bits than are needed, each with a right check behind them and with a wrong one.
func TestReadEachSize(t *testing.T) {
	for size := range int64(16) {
		for _, f := range []impl.Frame{{Id: 700, Len: size}, remoteFrame(700, size)} {
			for _, form := range []string{"000", "100", "011"} {
				head := headByEye(f, form)
				need := int(needByEye(head))
				for count := range 130 {
					s := checked(head + mixed(count, uint32(size)))
					code := checkRead(t, s)
					if len(s) != need && code != impl.RdSize {
						t.Fatalf("%q: %d bits, needed are %d: code %d", s, len(s), need, code)
					}
					if len(s) == need && code == impl.RdSize {
						t.Fatalf("%q: needed are just these %d bits", s, need)
					}
					checkRead(t, turnedOver(s, len(s)-1))
				}
			}
		}
	}
}

// A right frame that is cut off, at each place, or that goes on, by each number of bits.
func TestReadCutAndLonger(t *testing.T) {
	for _, f := range []impl.Frame{{}, dataFrame(2047), remoteFrame(77, 8), dataFrame(1, 2), dataFrame(5, 1, 2, 3, 4, 5, 6, 7, 8)} {
		s := checked(bodyByEye(f))
		for size := range s {
			if size < 19 {
				checkNeed(t, s[:size], -1)
				checkNotRead(t, s[:size], impl.RdBits)
			} else {
				checkNeed(t, s[:size], int64(len(s)))
				checkNotRead(t, s[:size], impl.RdSize)
			}
		}
		for size := len(s) + 1; size < 410; size++ {
			longer := s + mixed(size-len(s), 3)
			code := int64(impl.RdSize)
			if size > 400 {
				code = impl.RdBits
			}
			checkRead(t, longer)
			checkNotRead(t, longer, code)
			checkNotRead(t, s+strings.Repeat("0", size-len(s)), code)
		}
	}
}

// Texts of every length, most of them with nothing right in them.
func TestReadEachLength(t *testing.T) {
	for size := range 410 {
		for _, s := range append(textsOf(size), inRuns(size, 9), inverse(inRuns(size, 9))) {
			checkRead(t, s)
			checkRead(t, checked(s))
		}
	}
}

// Every way in which some of the five may be wrong at once: it is the one named first that is told.
func TestReadSeveralWrong(t *testing.T) {
	for wrong := range 32 {
		for _, remote := range []bool{false, true} {
			for _, form := range []string{"100", "010", "001", "111"} {
				checkSeveral(t, wrong, remote, form)
			}
		}
	}
}

// checkSeveral makes texts with what is wrong by the bits of a number: bit 0 stands for RdBits, bit 4 for RdLen.
func checkSeveral(t *testing.T, wrong int, remote bool, form string) {
	t.Helper()
	is := func(code int) bool { return wrong>>(code-1)&1 == 1 }
	f := impl.Frame{Id: 1234, Remote: remote, Len: 8}
	if is(impl.RdLen) {
		f.Len = 9
	}
	if !is(impl.RdForm) {
		form = "000"
	}
	head := headByEye(f, form)
	counts := []int{int(needByEye(head)) - 34}
	if is(impl.RdSize) {
		counts = []int{counts[0] + 1, counts[0] + 8, counts[0] + 64, 366}
	}
	want := int64(impl.RdOk)
	for code := impl.RdLen; code > impl.RdOk; code-- {
		if is(code) {
			want = int64(code)
		}
	}
	for _, count := range counts {
		s := checked(head + mixed(count, 7))
		if is(impl.RdCheck) {
			s = turnedOver(s, len(s)-3)
		}
		texts := []string{s}
		if is(impl.RdBits) {
			texts = []string{s[:18], s[:18] + "2" + s[19:], "x" + s[1:], s[:len(s)-1] + "\x00", s + strings.Repeat("1", 401-len(s)), s + " "}
		}
		for _, text := range texts {
			if code := checkRead(t, text); code != want {
				t.Fatalf("%q: code %d, not %d", text, code, want)
			}
		}
	}
}

// Each bit of a right frame turned over, and each two: what is left is never read as a frame.
func TestReadBitsTurnedOver(t *testing.T) {
	for _, f := range []impl.Frame{{}, dataFrame(2047), remoteFrame(0, 0), remoteFrame(1365, 8), dataFrame(291, 18), dataFrame(100, 1, 2, 4, 8, 16, 32, 64, 128)} {
		s := checked(bodyByEye(f))
		for one := range s {
			if code := checkRead(t, turnedOver(s, one)); code != impl.RdCheck && code != impl.RdSize {
				t.Fatalf("%+v, bit %d: code %d", f, one, code)
			}
			for other := range one {
				if code := checkRead(t, turnedOver(s, one, other)); code != impl.RdCheck && code != impl.RdSize {
					t.Fatalf("%+v, bits %d and %d: code %d", f, one, other, code)
				}
			}
		}
	}
}

// Each bit of a right body turned over, with a right check behind it: the bits 0, 13 and 14 tell in the form alone.
func TestReadBodyTurnedOver(t *testing.T) {
	manyFrames(func(f impl.Frame) {
		body := bodyByEye(f)
		for _, place := range []int{0, 13, 14} {
			checkNotRead(t, checked(turnedOver(body, place)), impl.RdForm)
		}
		checkNotRead(t, checked(turnedOver(body, 13, 14)), impl.RdForm)
		checkNotRead(t, checked(turnedOver(body, 0, 13, 14)), impl.RdForm)
	})
	for _, f := range rightFrames()[:60] {
		body := bodyByEye(f)
		for place := range body {
			checkRead(t, checked(turnedOver(body, place)))
		}
	}
}

// What is no bit, at each place, in texts that would be right otherwise.
func TestReadEachByteAtEachPlace(t *testing.T) {
	for _, f := range []impl.Frame{{}, remoteFrame(2047, 8), dataFrame(100, 1, 2, 4, 8, 16, 32, 64, 128)} {
		s := checked(bodyByEye(f))
		for place := range s {
			for b := range 256 {
				if b == '0' || b == '1' {
					continue
				}
				changed := s[:place] + string([]byte{byte(b)}) + s[place+1:]
				checkNeed(t, changed, -1)
				checkNotRead(t, changed, impl.RdBits)
			}
		}
	}
}

func TestReadNoBits(t *testing.T) {
	frame := checked(bodyByEye(dataFrame(5, 7)))
	for _, s := range notBits {
		for _, text := range []string{s, s + frame, frame + s, frame[:20] + s + frame[20:], strings.Repeat("0", 19) + s, s + strings.Repeat("1", 30)} {
			checkNeed(t, text, -1)
			checkNotRead(t, text, impl.RdBits)
		}
	}
	for _, place := range []int{0, 12, 18, 19, 399} {
		text := []byte(mixed(400, 8))
		text[place] = '2'
		checkNeed(t, string(text), -1)
		checkNotRead(t, string(text), impl.RdBits)
	}
}

// checkPromise6 fails where what is said of the frame is not read as this frame, ahead of the wire or behind it.
func checkPromise6(t *testing.T, f impl.Frame) {
	t.Helper()
	said := withCheck(t, impl.BodyOf(f))
	told, code := impl.ReadFrame(said)
	if code != impl.RdOk || !impl.SameFrame(told, f) || !impl.FrameOk(told) {
		t.Fatalf("%+v is read as %+v, code %d", f, told, code)
	}
	heard, ok := impl.Unstuffed(strings.TrimSuffix(impl.WireOf(f), tenOnes))
	if !ok || heard != said {
		t.Fatalf("%+v: %q is heard as %q", f, said, heard)
	}
	// It is whole with its last bit, and not ahead of that.
	checkNeed(t, said, int64(len(said)))
	for _, size := range []int{19, len(said) - 1} {
		checkNeed(t, said[:size], int64(len(said)))
	}
}

// Promise 6: ReadFrame of what is said is the frame.
func TestPromise6(t *testing.T) {
	manyFrames(func(f impl.Frame) {
		checkPromise6(t, f)
	})
}

// Promise 6, of all frames without a byte, and of all with one, for some Ids.
func TestPromise6FewBytes(t *testing.T) {
	for id := range int64(2048) {
		checkPromise6(t, dataFrame(id))
		for size := range int64(9) {
			checkPromise6(t, remoteFrame(id, size))
		}
	}
	for b := range int64(256) {
		for _, id := range []int64{0, 1, 1365, 2047} {
			checkPromise6(t, dataFrame(id, b))
		}
	}
}

// Promise 6, read the other way: what is read with RdOk has just these bits as its body, with its check.
func TestReadSaidAgain(t *testing.T) {
	met := 0
	again := func(s string) {
		f, code := impl.ReadFrame(s)
		if code != impl.RdOk {
			checkNotRead(t, s, code)
			return
		}
		met++
		if !impl.FrameOk(f) || withCheck(t, impl.BodyOf(f)) != s {
			t.Fatalf("%q is read as %+v", s, f)
		}
	}
	eachHead(func(head string) {
		for count := range 9 {
			again(checked(head + mixed(8*count, 5)))
		}
	})
	for seed := range uint32(3000) {
		for size := 19; size <= 83; size += 8 {
			again(checked(mixed(size, seed)))
			again(checked("0" + mixed(size-1, seed)))
			again(mixed(size+15, seed))
		}
	}
	if met < 500 {
		t.Errorf("only %d frames were read", met)
	}
}

// Promise 20, for this layer: every function answers at every argument and none panics; arguments stay.
func TestReadAnswersAtAll(t *testing.T) {
	list := append(someBits(), notBits...)
	for size := range 130 {
		list = append(list, textsOf(size)...)
		list = append(list, strings.Repeat("\x00", size), strings.Repeat("\xff", size), strings.Repeat("é", size), strings.Repeat("2", size))
	}
	for _, size := range []int{400, 401, 402, 65535, 65536, 1 << 20} {
		list = append(list, textsOf(size)...)
	}
	for _, s := range list {
		before := strings.Clone(s)
		mustAnswer(t, func() {
			impl.NeedOf(s)
			impl.ReadFrame(s)
		}, s)
		if s != before {
			t.Errorf("%q has become %q", before, s)
		}
	}
}

// Promise 20, for this layer: the Data of an answer is new memory, and so is the spare room behind it.
func TestReadDataIsNew(t *testing.T) {
	for size := range 9 {
		f := dataFrame(5, someBytes(size, 21)...)
		s := checked(bodyByEye(f))
		first, _ := impl.ReadFrame(s)
		second, _ := impl.ReadFrame(s)
		for i := range first.Data {
			first.Data[i] = -1
		}
		room := first.Data[:cap(first.Data)]
		for i := range room {
			room[i] = -2
		}
		if !slices.Equal(flat(second), flat(f)) {
			t.Fatalf("%q: with another answer this one has become %+v", s, second)
		}
		for i := range room {
			room[i] = -3
		}
		room = second.Data[:cap(second.Data)]
		for i := range room {
			room[i] = -4
		}
		for _, n := range first.Data {
			if n != -3 {
				t.Fatalf("%q: with another answer this one has become %+v", s, first)
			}
		}
		checkReadAs(t, s, f, impl.RdOk)
	}
}

// Promise 20, for this layer: nothing is kept from call to call.
func TestReadKeepsNothing(t *testing.T) {
	eight := dataFrame(100, 1, 2, 4, 8, 16, 32, 64, 128)
	long, short := checked(bodyByEye(eight)), checked(bodyByEye(impl.Frame{}))
	for range 3 {
		checkReadAs(t, long, eight, impl.RdOk)
		checkNotRead(t, long[:97], impl.RdSize)
		checkNeed(t, "", -1)
		checkReadAs(t, short, impl.Frame{}, impl.RdOk)
		checkNotRead(t, "", impl.RdBits)
		checkNeed(t, long, 98)
		checkNotRead(t, turnedOver(long, 97), impl.RdCheck)
		checkNeed(t, short[:19], 34)
	}
}
