package tests

import (
	"math"
	"slices"
	"strconv"
	"strings"
	"testing"

	"loop.example/g00753/impl"
)

const tenOnes = "1111111111"

// stuffedByEyeOf are the bits of a right frame ahead of the 10 ones, told in another way than the program.
func stuffedByEyeOf(f impl.Frame) string {
	body := bodyByEye(f)
	return stuffedByEye(body + restBits(body))
}

// mostLengths are what MostLength tells of 0 to 8 bytes.
var mostLengths = []int64{52, 62, 72, 82, 92, 102, 112, 122, 132}

// longestFrames are, of 0 to 8 bytes, one of the longest frames that there are, and how long it is. (Found by going
// through all that can be said so far, each with its check and its run.)
var longestFrames = []struct {
	f    impl.Frame
	bits int64
}{
	{dataFrame(0), 50}, {dataFrame(1984, 125), 59}, {dataFrame(7, 15, 15), 69}, {dataFrame(63, 254, 16, 120), 80},
	{dataFrame(62, 16, 120, 3, 254), 90}, {dataFrame(1984, 240, 240, 240, 62, 30), 99}, {dataFrame(2046, 15, 15, 15, 15, 248, 120), 110},
	{dataFrame(31, 135, 135, 193, 225, 225, 225, 225), 121}, {dataFrame(120, 1, 225, 225, 225, 225, 225, 224, 15), 130},
}

// frameOf is the frame whose Id is told by the first 11 of the bits, and each of its bytes by 8 more.
func frameOf(bits string) impl.Frame {
	id, _ := strconv.ParseInt(bits[:11], 2, 64)
	var data []int64
	for from := 11; from < len(bits); from += 8 {
		b, _ := strconv.ParseInt(bits[from:from+8], 2, 64)
		data = append(data, b)
	}
	return dataFrame(id, data...)
}

// manyFrames calls with many right frames: of each kind, without a plain pattern, and with long runs of alike bits.
func manyFrames(call func(f impl.Frame)) {
	for _, f := range rightFrames() {
		call(f)
	}
	for _, longest := range longestFrames {
		call(longest.f)
	}
	for size := range 9 {
		for seed := range uint32(200) {
			runs := inRuns(11+8*size, seed)
			call(frameOf(runs))
			call(frameOf(inverse(runs)))
			call(dataFrame(int64(seed*41%2048), someBytes(size, seed)...))
		}
		// Into this pattern as many are put as can be; it is begun at each of its places.
		for from := range 8 {
			call(frameOf(fullest(19 + 8*size)[from : from+11+8*size]))
		}
	}
}

// checkWire fails where the wire is not the one told in the other way, or LengthOf is not how long that is.
func checkWire(t *testing.T, f impl.Frame) {
	t.Helper()
	want := stuffedByEyeOf(f) + tenOnes
	if wire := impl.WireOf(f); wire != want {
		t.Fatalf("WireOf %+v: %q, not %q", f, wire, want)
	}
	if length := impl.LengthOf(f); length != int64(len(want)) {
		t.Fatalf("LengthOf %+v: %d, not %d", f, length, len(want))
	}
}

func checkNoWire(t *testing.T, f impl.Frame) {
	t.Helper()
	if wire, length := impl.WireOf(f), impl.LengthOf(f); wire != "" || length != -1 {
		t.Fatalf("%+v: %q, %d", f, wire, length)
	}
}

func TestWiresByHand(t *testing.T) {
	for _, c := range []struct {
		f       impl.Frame
		stuffed string
	}{
		// The zero Frame, and other ones without a byte.
		{impl.Frame{}, "0000010000010000010000010000010000010000"},
		{dataFrame(1024), "0100000100000100000100010010110110001"},
		{dataFrame(2047), "0111110111110100000100010011100101111"},
		{remoteFrame(0, 0), "0000010000010010000010111001111000101"},
		{remoteFrame(2047, 0), "0111110111110110000010101010011101010"},
		{remoteFrame(0, 8), "000001000001001001000001001111100000110"},
		{remoteFrame(2047, 8), "0111110111110110010000100000111101101"},
		// One byte, two, eight.
		{dataFrame(0, 0), "0000010000010000010001000001000100010000100110"},
		{dataFrame(1, 1), "0000010000010100000101000001001011100110110101"},
		{dataFrame(2047, 255), "01111101111101000001011111011111011101000010101"},
		{dataFrame(291, 18, 52), "000100100011000001100001001000110100011011010110111"},
		{dataFrame(1365, 1, 128), "01010101010100000110000010001100000100111011000010001"},
		{dataFrame(0, 0, 0, 0, 0, 0, 0, 0, 0), "000001000001000001100000100000100000100000100000100000100000100000100000100000100000100000100000100001010001011011"},
		{dataFrame(2047, 255, 255, 255, 255, 255, 255, 255, 255), "01111101111101000100011111011111011111011111011111011111011111011111011111011111011111011111011111000110010001001"},
		{dataFrame(100, 1, 2, 4, 8, 16, 32, 64, 128), "00000111001000001100000100000110000010100000101000001010000010100000101000001010000010100000100011100011001110"},
		// The check ends in five alike bits: one more is put in.
		{dataFrame(9), "000001000100100000100111110000011000001"},
		{dataFrame(23), "0000010010111000001001010010000111110"},
		{remoteFrame(4, 4), "000001000010010001001100110110111110"},
		{remoteFrame(6, 5), "000001000011010001011100111011000001"},
		// It ends in four alike bits, and the one ahead of them was put in, and is alike, too.
		{dataFrame(141), "0000100011010000010001011011111000001"},
		{remoteFrame(3, 0), "000001000001111000001000101011111000001"},
		{remoteFrame(99, 5), "0000011100011100010110100100000111110"},
		// It ends in four ones, and those behind them do not count with them.
		{remoteFrame(1, 1), "0000010000010110000011001010001001111"},
	} {
		if wire := impl.WireOf(c.f); wire != c.stuffed+tenOnes {
			t.Errorf("WireOf %+v: %q, not %q", c.f, wire, c.stuffed+tenOnes)
		}
		if length := impl.LengthOf(c.f); length != int64(len(c.stuffed))+10 {
			t.Errorf("LengthOf %+v: %d, not %d", c.f, length, len(c.stuffed)+10)
		}
	}
}

func TestWiresRight(t *testing.T) {
	manyFrames(func(f impl.Frame) {
		checkWire(t, f)
	})
}

func TestWiresWrong(t *testing.T) {
	for _, f := range wrongFrames() {
		checkNoWire(t, f)
	}
}

// Each Id that there is, and some past each end: without a byte, with some, and remote with each Len there is.
func TestWireEachId(t *testing.T) {
	for id := int64(-300); id <= 2400; id++ {
		check := checkNoWire
		if id >= 0 && id <= 2047 {
			check = checkWire
		}
		check(t, dataFrame(id))
		check(t, dataFrame(id, 0, 255))
		for size := range int64(9) {
			check(t, remoteFrame(id, size))
		}
		checkNoWire(t, remoteFrame(id, -1))
		checkNoWire(t, remoteFrame(id, 9))
	}
}

// Each byte that there is, and some past each end: alone and at each place of eight.
func TestWireEachByte(t *testing.T) {
	for b := int64(-20); b <= 280; b++ {
		check := checkNoWire
		if b >= 0 && b <= 255 {
			check = checkWire
		}
		check(t, dataFrame(0, b))
		check(t, dataFrame(2047, b))
		for place := range 8 {
			check(t, changedAt(dataFrame(9, someBytes(8, 11)...), place, b))
		}
	}
}

// Bytes 0 and bytes 255 alone, as many as there may be, and one more; a right Len does not make up for a wrong count.
func TestWireEachCount(t *testing.T) {
	for size := range 9 {
		for _, b := range []int64{0, 255} {
			for _, id := range []int64{0, 2047} {
				f := dataFrame(id, slices.Repeat([]int64{b}, size)...)
				checkWire(t, f)
				longer := f
				longer.Data = append(slices.Clone(f.Data), b)
				checkNoWire(t, longer)
				if size > 0 {
					shorter := f
					shorter.Data = f.Data[1:]
					checkNoWire(t, shorter)
					remote := f
					remote.Remote = true
					checkNoWire(t, remote)
				}
			}
		}
	}
	checkNoWire(t, dataFrame(0, make([]int64, 9)...))
}

// No Data as nil and as an empty list are the same.
func TestWireNoData(t *testing.T) {
	for _, data := range [][]int64{nil, {}, make([]int64, 0, 8), []int64{300, 7}[:0]} {
		checkWire(t, impl.Frame{Data: data})
		checkWire(t, impl.Frame{Id: 700, Remote: true, Len: 8, Data: data})
		checkNoWire(t, impl.Frame{Len: 1, Data: data})
	}
}

// A remote frame has no byte, whatever its Len: that tells in the head and in the check alone.
func TestRemoteWires(t *testing.T) {
	for id := range int64(2048) {
		for size := range int64(9) {
			f := remoteFrame(id, size)
			if length := impl.LengthOf(f); length < 44 || length > 50 {
				t.Fatalf("%+v: %d bits", f, length)
			}
			if size > 0 && impl.WireOf(f) == impl.WireOf(remoteFrame(id, size-1)) {
				t.Fatalf("%+v: the wire is that of the Len one less, too", f)
			}
		}
	}
}

// Where the check ends in five alike bits, as it stands on the wire, one is put in behind it, ahead of the 10 ones.
func TestWirePutInBehindTheCheck(t *testing.T) {
	put := map[string]int{}
	count := func(f impl.Frame) {
		checkWire(t, f)
		body, front := bodyByEye(f), stuffedByEyeOf(f)
		whole := body + restBits(body)
		last := front[len(front)-6:]
		if last != "000001" && last != "111110" {
			return
		}
		checkUnstuffed(t, front, whole)
		checkNotUnstuffed(t, front[:len(front)-1])
		if endsInFive(whole) {
			put[last+" all of the check"]++
		} else {
			put[last+" with one that was put in"]++
		}
	}
	for id := range int64(2048) {
		count(dataFrame(id))
		for size := range int64(9) {
			count(remoteFrame(id, size))
		}
	}
	for _, kind := range []string{
		"000001 all of the check", "111110 all of the check", "000001 with one that was put in", "111110 with one that was put in",
	} {
		if put[kind] < 10 {
			t.Errorf("%s: only %d frames", kind, put[kind])
		}
	}
}

// The 10 ones at the end are not stuffed, even where those ahead of them are ones, too; what is ahead of them is the
// body with its check, stuffed, as the chapters ahead tell it.
func TestWireEnd(t *testing.T) {
	ahead := map[int]int{}
	manyFrames(func(f impl.Frame) {
		wire := impl.WireOf(f)
		front, ended := strings.CutSuffix(wire, tenOnes)
		if !ended || sixAlike(front) {
			t.Fatalf("%+v: %q", f, wire)
		}
		whole, ok := impl.Unstuffed(front)
		if !ok || !impl.CheckRight(whole) || whole[:len(whole)-15] != impl.BodyOf(f) {
			t.Fatalf("%+v: %q is made of %q", f, front, whole)
		}
		ahead[len(front)-len(strings.TrimRight(front, "1"))]++
	})
	for ones := range 5 {
		if ahead[ones] == 0 {
			t.Errorf("no frame has %d ones ahead of the end", ones)
		}
	}
}

func TestLengthOfIsOfWireOf(t *testing.T) {
	manyFrames(func(f impl.Frame) {
		if length, wire := impl.LengthOf(f), impl.WireOf(f); length != int64(len(wire)) || length < 44 {
			t.Fatalf("%+v: %d, but %q", f, length, wire)
		}
	})
	for _, f := range wrongFrames() {
		if length := impl.LengthOf(f); length != -1 {
			t.Fatalf("%+v: %d", f, length)
		}
	}
}

func TestMostLength(t *testing.T) {
	for bytes, want := range mostLengths {
		if most := impl.MostLength(int64(bytes)); most != want {
			t.Errorf("%d bytes: %d, not %d", bytes, most, want)
		}
		bits := int64(34 + 8*bytes)
		if parts := bits + impl.MostStuffs(bits) + 10; parts != want {
			t.Errorf("%d bytes: its parts are %d, not %d", bytes, parts, want)
		}
	}
}

func TestMostLengthRefused(t *testing.T) {
	list := slices.Clone(farNumbers)
	for past := int64(1); past <= 500; past++ {
		list = append(list, -past, 8+past)
	}
	// Eight times one of these comes round to what eight times a right number is.
	for shift := 61; shift < 64; shift++ {
		for k := range int64(9) {
			list = append(list, 1<<shift+k, -1<<shift+k)
		}
	}
	for _, bytes := range list {
		if most := impl.MostLength(bytes); most != -1 {
			t.Errorf("%d bytes: %d", bytes, most)
		}
	}
}

// checkPromise5 fails where the frame is longer than MostLength of its bytes.
func checkPromise5(t *testing.T, f impl.Frame) {
	t.Helper()
	wire, length, most := impl.WireOf(f), impl.LengthOf(f), impl.MostLength(int64(len(f.Data)))
	if length > most || int64(len(wire)) > most || most < 0 || length < 0 {
		t.Fatalf("%+v: %d bits, at most %d, %q", f, length, most, wire)
	}
}

// Promise 5: no frame is longer than MostLength of its bytes.
func TestPromise5(t *testing.T) {
	manyFrames(func(f impl.Frame) {
		checkPromise5(t, f)
	})
}

// Promise 5, of all frames without a byte.
func TestPromise5NoByte(t *testing.T) {
	for id := range int64(2048) {
		checkPromise5(t, dataFrame(id))
		for size := range int64(9) {
			checkPromise5(t, remoteFrame(id, size))
		}
	}
}

// Promise 5, of frames with few bytes: each byte with Ids that begin and end in runs of all lengths.
func TestPromise5FewBytes(t *testing.T) {
	for run := range 12 {
		for _, id := range []int64{1<<run - 1, 2047 - (1<<run - 1)} {
			for b := range int64(256) {
				checkPromise5(t, dataFrame(id, b))
				checkPromise5(t, dataFrame(id, b, b))
				checkPromise5(t, dataFrame(id, b, 255-b))
				checkPromise5(t, dataFrame(id, slices.Repeat([]int64{b}, 8)...))
			}
		}
	}
}

// Promise 5, of the frames that come nearest to breaking it.
func TestPromise5Longest(t *testing.T) {
	for bytes, longest := range longestFrames {
		checkWire(t, longest.f)
		checkPromise5(t, longest.f)
		if length := impl.LengthOf(longest.f); length != longest.bits || len(longest.f.Data) != bytes {
			t.Errorf("%+v: %d bits, not %d", longest.f, length, longest.bits)
		}
	}
	manyFrames(func(f impl.Frame) {
		if longest := longestFrames[len(f.Data)]; impl.LengthOf(f) > longest.bits {
			t.Errorf("%+v is longer than the longest, %+v", f, longest.f)
		}
	})
}

// Promise 20, for this layer: every function answers at every argument and none panics; no argument is written into,
// nor the spare room behind it.
func TestWiresAnswerAtAll(t *testing.T) {
	list := append(rightFrames(), wrongFrames()...)
	list = append(list, impl.Frame{Len: 8, Data: make([]int64, 100000)}, impl.Frame{Remote: true, Data: make([]int64, 100000)})
	for _, f := range list {
		room := append(slices.Clone(f.Data), -7, 300, math.MinInt64, 1, 2, 3, 4, 5, 6)
		before := slices.Clone(room)
		g := f
		g.Data = room[:len(f.Data)]
		mustAnswer(t, func() {
			impl.WireOf(g)
			impl.LengthOf(g)
		}, f)
		if !slices.Equal(room, before) {
			t.Fatalf("%+v: its Data, or the room behind it, has become %v", f, room)
		}
		if !slices.Equal(flat(g), flat(f)) {
			t.Fatalf("%+v has become %+v", f, g)
		}
	}
	for shift := range 64 {
		for _, n := range []int64{1<<shift - 1, 1 << shift, 1<<shift + 1, -1 << shift, -1<<shift - 1} {
			mustAnswer(t, func() { impl.MostLength(n) }, n)
		}
	}
}

// Promise 20, for this layer: what was answered stays when the argument is changed, and another call tells the change.
func TestWiresKeepNothing(t *testing.T) {
	data := []int64{1, 2, 3}
	f := impl.Frame{Id: 40, Len: 3, Data: data}
	first, want := impl.WireOf(f), stuffedByEyeOf(f)+tenOnes
	data[0], data[2] = 200, 7
	if first != want {
		t.Errorf("what was answered has become %q", first)
	}
	checkWire(t, f)
	data[1] = 256
	checkNoWire(t, f)
	data[1] = 255
	for range 3 {
		checkWire(t, f)
		checkNoWire(t, impl.Frame{Id: 40, Len: 2, Data: data})
		checkWire(t, impl.Frame{})
		if most := impl.MostLength(8); most != 132 {
			t.Error(most)
		}
	}
}
