package tests

import (
	"fmt"
	"math"
	"slices"
	"testing"

	"loop.example/g00753/impl"
)

// bodyByEye tells the body in another way than the program, and of right frames only.
func bodyByEye(f impl.Frame) string {
	remote := 0
	if f.Remote {
		remote = 1
	}
	body := fmt.Sprintf("0%011b%d00%04b", f.Id, remote, f.Len)
	for _, b := range f.Data {
		body += fmt.Sprintf("%08b", b)
	}
	return body
}

// dataFrame is a frame with these bytes; its Len is how many they are.
func dataFrame(id int64, data ...int64) impl.Frame {
	return impl.Frame{Id: id, Len: int64(len(data)), Data: data}
}

func remoteFrame(id, size int64) impl.Frame {
	return impl.Frame{Id: id, Remote: true, Len: size}
}

// someBytes are so many right bytes without a plain pattern; another seed gives other ones.
func someBytes(size int, seed uint32) []int64 {
	data := make([]int64, size)
	for i := range data {
		seed = seed*1664525 + 1013904223
		data[i] = int64(seed >> 24)
	}
	return data
}

// changedAt is the frame with another byte at that place, in new memory.
func changedAt(f impl.Frame, place int, b int64) impl.Frame {
	f.Data = slices.Clone(f.Data)
	f.Data[place] = b
	return f
}

// farNumbers are far from all that a field may be; many of them would be right if only some of their bits counted.
var farNumbers = []int64{
	math.MinInt64, math.MinInt64 + 1, math.MinInt64 + 8, -1 << 32, -1<<32 + 1, -65536, -4096, -2048, -2047, -256, -255, -16, -9, -8,
	4096, 4097, 65536, 65537, 1<<31 - 1, 1 << 31, 1 << 32, 1<<32 + 1, 1<<32 + 8, 1 << 62, math.MaxInt64 - 1, math.MaxInt64,
}

// rightFrames are right frames of all kinds; no two of them are alike.
func rightFrames() []impl.Frame {
	var list []impl.Frame
	for _, id := range []int64{0, 1, 2, 3, 682, 1023, 1024, 1365, 2046, 2047} {
		for size := range 9 {
			list = append(list, remoteFrame(id, int64(size)), dataFrame(id, someBytes(size, 1)...))
			if size > 0 {
				all := dataFrame(id, slices.Repeat([]int64{255}, size)...)
				list = append(list, all, dataFrame(id, make([]int64, size)...), dataFrame(id, someBytes(size, 2026)...))
				list = append(list, changedAt(all, 0, 0), changedAt(all, size-1, 254))
			}
		}
	}
	slices.SortFunc(list, func(a, b impl.Frame) int { return slices.Compare(flat(a), flat(b)) })
	return slices.CompactFunc(list, func(a, b impl.Frame) bool { return slices.Equal(flat(a), flat(b)) })
}

// flat are all the fields of a frame, one behind the other: alike just where all fields are.
func flat(f impl.Frame) []int64 {
	remote := int64(0)
	if f.Remote {
		remote = 1
	}
	return append([]int64{f.Id, remote, f.Len}, f.Data...)
}

// wrongFrames are frames each of which is wrong.
func wrongFrames() []impl.Frame {
	list := []impl.Frame{
		{Id: -1}, {Id: 2048}, {Id: -1, Remote: true}, {Id: 2048, Remote: true}, {Id: 2048, Len: 1, Data: []int64{1}},
		{Len: -1}, {Len: 9}, {Remote: true, Len: -1}, {Remote: true, Len: 9}, {Id: 2047, Remote: true, Len: 9},
		{Len: 9, Data: make([]int64, 9)}, {Len: 9, Data: make([]int64, 8)}, {Len: 8, Data: make([]int64, 9)},
		{Len: -1, Data: []int64{1}}, {Len: 10, Data: make([]int64, 10)}, {Len: 16, Data: make([]int64, 16)},
		{Data: make([]int64, 256)}, {Len: 256, Data: make([]int64, 256)}, {Len: 5000, Data: make([]int64, 5000)},
	}
	for size := range 9 {
		for _, count := range []int{size - 1, size + 1, 0, 8} {
			if count >= 0 && count != size {
				list = append(list, impl.Frame{Id: 5, Len: int64(size), Data: make([]int64, count)})
			}
			if count > 0 {
				list = append(list, impl.Frame{Id: 5, Remote: true, Len: int64(size), Data: make([]int64, count)})
			}
		}
		if size > 0 {
			list = append(list, impl.Frame{Id: 5, Remote: true, Len: int64(size), Data: make([]int64, size)})
		}
		for place := range size {
			f := dataFrame(5, someBytes(size, 3)...)
			list = append(list, changedAt(f, place, -1), changedAt(f, place, 256))
			for _, n := range farNumbers {
				list = append(list, changedAt(f, place, n))
			}
		}
	}
	for _, n := range farNumbers {
		list = append(list, impl.Frame{Id: n}, remoteFrame(n, 0), remoteFrame(n, 8), dataFrame(n, 1, 2))
		list = append(list, impl.Frame{Len: n}, remoteFrame(5, n), impl.Frame{Len: n, Data: []int64{1}}, impl.Frame{Len: n, Data: make([]int64, 8)})
		list = append(list, impl.Frame{Id: n, Remote: true, Len: n, Data: []int64{n}}, impl.Frame{Id: n, Len: n, Data: []int64{n, n}})
	}
	return list
}

// checkRight fails where the frame is refused, or its head or body is not the one told in the other way.
func checkRight(t *testing.T, f impl.Frame) {
	t.Helper()
	want := bodyByEye(f)
	if !impl.FrameOk(f) {
		t.Fatalf("%+v is refused", f)
	}
	if head := impl.HeadOf(f); head != want[:19] {
		t.Fatalf("HeadOf %+v: %q, not %q", f, head, want[:19])
	}
	if body := impl.BodyOf(f); body != want {
		t.Fatalf("BodyOf %+v: %q, not %q", f, body, want)
	}
}

func checkWrong(t *testing.T, f impl.Frame) {
	t.Helper()
	if impl.FrameOk(f) {
		t.Fatalf("%+v is accepted", f)
	}
	if head, body := impl.HeadOf(f), impl.BodyOf(f); head != "" || body != "" {
		t.Fatalf("%+v: head %q, body %q", f, head, body)
	}
}

// checkSame fails where SameFrame of the two, in either order, is not want.
func checkSame(t *testing.T, a, b impl.Frame, want bool) {
	t.Helper()
	if impl.SameFrame(a, b) != want || impl.SameFrame(b, a) != want {
		t.Fatalf("%+v and %+v: not %v", a, b, want)
	}
}

func TestFrameLimit(t *testing.T) {
	if impl.MaxId != 2047 {
		t.Fatal(impl.MaxId)
	}
}

func TestFramesByHand(t *testing.T) {
	for _, c := range []struct {
		f          impl.Frame
		head, data string
	}{
		{impl.Frame{}, "0000000000000000000", ""},
		{impl.Frame{Id: 1}, "0000000000010000000", ""},
		{impl.Frame{Id: 2047}, "0111111111110000000", ""},
		{impl.Frame{Id: 1024}, "0100000000000000000", ""},
		{impl.Frame{Remote: true}, "0000000000001000000", ""},
		{remoteFrame(2047, 8), "0111111111111001000", ""},
		{remoteFrame(1365, 7), "0101010101011000111", ""},
		{dataFrame(2047, 0), "0111111111110000001", "00000000"},
		{dataFrame(0, 255), "0000000000000000001", "11111111"},
		{dataFrame(3, 1, 128, 254), "0000000000110000011", "000000011000000011111110"},
		{dataFrame(100, 1, 2, 4, 8, 16, 32, 64, 128), "0000011001000001000", "0000000100000010000001000000100000010000001000000100000010000000"},
	} {
		if !impl.FrameOk(c.f) || impl.HeadOf(c.f) != c.head || impl.BodyOf(c.f) != c.head+c.data {
			t.Errorf("%+v: %v, %q, %q", c.f, impl.FrameOk(c.f), impl.HeadOf(c.f), impl.BodyOf(c.f))
		}
	}
}

func TestFramesRight(t *testing.T) {
	for _, f := range rightFrames() {
		checkRight(t, f)
	}
}

func TestFramesWrong(t *testing.T) {
	for _, f := range wrongFrames() {
		checkWrong(t, f)
	}
}

// Each Id that there is, and some past each end.
func TestFrameEachId(t *testing.T) {
	for id := int64(-300); id <= 2400; id++ {
		check := checkWrong
		if id >= 0 && id <= 2047 {
			check = checkRight
		}
		check(t, impl.Frame{Id: id})
		check(t, dataFrame(id, 0, 255))
		check(t, remoteFrame(id, 8))
	}
}

// Each Len with each count of bytes, one past each end included: it is right where the two are one, and from 0 to 8;
// a remote frame is right with each of these Lens, but only without a byte.
func TestFrameEachLen(t *testing.T) {
	for size := int64(-2); size <= 18; size++ {
		inRange := size >= 0 && size <= 8
		for count := range 19 {
			data := someBytes(count, uint32(count))
			plain := impl.Frame{Id: 77, Len: size, Data: data}
			if inRange && int64(count) == size {
				checkRight(t, plain)
			} else {
				checkWrong(t, plain)
			}
			remote := impl.Frame{Id: 77, Remote: true, Len: size, Data: data}
			if inRange && count == 0 {
				checkRight(t, remote)
			} else {
				checkWrong(t, remote)
			}
		}
	}
}

// Each byte that there is, and some past each end: alone, at the front, in the middle, at the end.
func TestFrameEachByte(t *testing.T) {
	for b := int64(-300); b <= 600; b++ {
		check := checkWrong
		if b >= 0 && b <= 255 {
			check = checkRight
		}
		check(t, dataFrame(9, b))
		check(t, dataFrame(9, b, 0))
		check(t, dataFrame(9, 255, b))
		for place := range 8 {
			check(t, changedAt(dataFrame(9, someBytes(8, 5)...), place, b))
		}
	}
}

// A wrong byte makes a remote frame no more wrong than a right one does: it has none.
func TestRemoteFrameWithData(t *testing.T) {
	for size := int64(0); size <= 8; size++ {
		checkRight(t, remoteFrame(6, size))
		for _, b := range []int64{-1, 0, 1, 255, 256} {
			checkWrong(t, impl.Frame{Id: 6, Remote: true, Len: size, Data: []int64{b}})
		}
	}
}

// No Data as an empty list, as nil and as a list of nothing with room behind it are the same.
func TestFrameNoData(t *testing.T) {
	for _, f := range []impl.Frame{{}, {Id: 2047}, {Remote: true}, remoteFrame(9, 8), {Id: -1}, {Len: 3}, {Len: 9}} {
		for _, data := range [][]int64{{}, make([]int64, 0, 8), []int64{300, 7}[:0]} {
			g := f
			g.Data = data
			checkSame(t, f, g, true)
			if impl.FrameOk(g) != impl.FrameOk(f) || impl.HeadOf(g) != impl.HeadOf(f) || impl.BodyOf(g) != impl.BodyOf(f) {
				t.Errorf("%+v: nil and an empty list are told apart", f)
			}
		}
	}
	checkRight(t, impl.Frame{Data: []int64{}})
	checkRight(t, impl.Frame{Remote: true, Len: 8, Data: []int64{}})
	checkWrong(t, impl.Frame{Len: 1, Data: []int64{}})
}

// SameFrame of all pairs of right frames, in other memory where they are alike.
func TestSameFrameRight(t *testing.T) {
	list := rightFrames()
	for i, a := range list {
		for k, b := range list {
			b.Data = slices.Clone(b.Data)
			checkSame(t, a, b, i == k)
		}
	}
}

// Frames that are wrong are held against each other, and against right ones, by their fields, as right ones are.
func TestSameFrameWrong(t *testing.T) {
	list := append(wrongFrames(), rightFrames()[:50]...)
	for _, a := range list {
		for _, b := range list {
			b.Data = slices.Clone(b.Data)
			checkSame(t, a, b, slices.Equal(flat(a), flat(b)))
		}
	}
	// Data counts as a whole, whatever Len and Remote tell of it.
	checkSame(t, impl.Frame{Len: 1, Data: []int64{1, 2}}, impl.Frame{Len: 1, Data: []int64{1, 3}}, false)
	checkSame(t, impl.Frame{Len: 1, Data: []int64{1, 2}}, dataFrame(0, 1), false)
	checkSame(t, impl.Frame{Remote: true, Data: []int64{1}}, impl.Frame{Remote: true}, false)
	checkSame(t, impl.Frame{Remote: true, Data: []int64{1}}, impl.Frame{Remote: true, Data: []int64{2}}, false)
	checkSame(t, impl.Frame{Len: 2, Data: []int64{1}}, impl.Frame{Len: 2, Data: []int64{1, 0}}, false)
}

// oneFieldPairs calls with pairs of frames that differ in one field alone.
func oneFieldPairs(call func(a, b impl.Frame)) {
	numbers := append([]int64{-2, -1, 0, 1, 2, 7, 8, 9, 127, 128, 254, 255, 256, 257, 1023, 1024, 2046, 2047, 2048, 2049}, farNumbers...)
	for _, f := range append(rightFrames(), impl.Frame{Id: -1}, impl.Frame{Len: 9}, impl.Frame{Remote: true, Data: []int64{1, 2}}) {
		turned := f
		turned.Remote = !f.Remote
		call(f, turned)
		for _, n := range numbers {
			other := f
			other.Id = n
			call(f, other)
			other = f
			other.Len = n
			call(f, other)
			for place := range f.Data {
				call(f, changedAt(f, place, n))
			}
		}
		longer := f
		longer.Data = append(slices.Clone(f.Data), 0)
		call(f, longer)
		if len(f.Data) > 0 {
			shorter := f
			shorter.Data = f.Data[:len(f.Data)-1]
			call(f, shorter)
			shorter.Data = f.Data[1:]
			call(f, shorter)
		}
	}
}

func TestSameFrameOneField(t *testing.T) {
	oneFieldPairs(func(a, b impl.Frame) {
		checkSame(t, a, b, slices.Equal(flat(a), flat(b)))
	})
}

// checkPromise4 fails where two frames of one body are not one frame, or one frame has two bodies.
func checkPromise4(t *testing.T, a, b impl.Frame) {
	t.Helper()
	if !impl.FrameOk(a) || !impl.FrameOk(b) {
		return
	}
	oneBody := impl.BodyOf(a) == impl.BodyOf(b)
	if same := impl.SameFrame(a, b); same != oneBody || oneBody != slices.Equal(flat(a), flat(b)) {
		t.Fatalf("%+v and %+v: one body %v, the same %v", a, b, oneBody, same)
	}
}

// Promise 4: two right frames of one body are one frame.
func TestPromise4(t *testing.T) {
	list := rightFrames()
	for _, a := range list {
		for _, b := range list {
			b.Data = slices.Clone(b.Data)
			checkPromise4(t, a, b)
		}
	}
}

func TestPromise4OneField(t *testing.T) {
	right := 0
	oneFieldPairs(func(a, b impl.Frame) {
		if impl.FrameOk(a) && impl.FrameOk(b) {
			right++
		}
		checkPromise4(t, a, b)
	})
	if right < 10000 {
		t.Errorf("only %d pairs of right frames", right)
	}
}

// Promise 4, of many frames at once: no body is met twice.
func TestPromise4NoBodyTwice(t *testing.T) {
	seen := map[string]impl.Frame{}
	meet := func(f impl.Frame) {
		body := impl.BodyOf(f)
		if other, met := seen[body]; met || body == "" {
			t.Fatalf("%+v and %+v: %q", other, f, body)
		}
		seen[body] = f
	}
	for id := range int64(2048) {
		for size := range int64(9) {
			meet(remoteFrame(id, size))
			meet(dataFrame(id, make([]int64, size)...))
		}
	}
	for b := int64(1); b <= 255; b++ {
		for place := range 8 {
			meet(changedAt(dataFrame(2047, make([]int64, 8)...), place, b))
		}
		for c := range int64(256) {
			meet(dataFrame(2047, b, c))
		}
	}
}

// Promise 4, read the other way: from its body each field of a right frame can be told again.
func TestFrameToldByItsBody(t *testing.T) {
	for _, f := range rightFrames() {
		body := impl.BodyOf(f)
		if !impl.BitsOk(body) || len(body) != 19+8*len(f.Data) {
			t.Fatalf("%+v: %q", f, body)
		}
		var told impl.Frame
		told.Id, _ = impl.NumberOf(body[1:12])
		told.Remote = body[12] == '1'
		told.Len, _ = impl.NumberOf(body[15:19])
		for from := 19; from < len(body); from += 8 {
			b, _ := impl.NumberOf(body[from : from+8])
			told.Data = append(told.Data, b)
		}
		if body[0] != '0' || body[13:15] != "00" {
			t.Fatalf("%+v: %q", f, body)
		}
		checkSame(t, f, told, true)
	}
}

// Promise 20, for this layer: every function answers at every argument and none panics; no argument is written into,
// nor the spare room behind it.
func TestFramesAnswerAtAll(t *testing.T) {
	list := append(rightFrames(), wrongFrames()...)
	list = append(list, impl.Frame{Len: 8, Data: make([]int64, 100000)}, impl.Frame{Remote: true, Data: make([]int64, 100000)})
	for i, f := range list {
		room := append(slices.Clone(f.Data), -7, 300, math.MinInt64, 1, 2, 3, 4, 5, 6)
		before := slices.Clone(room)
		g := f
		g.Data = room[:len(f.Data)]
		other := list[(i*7+1)%len(list)]
		mustAnswer(t, func() {
			impl.FrameOk(g)
			impl.HeadOf(g)
			impl.BodyOf(g)
			impl.SameFrame(g, g)
			impl.SameFrame(g, other)
			impl.SameFrame(other, g)
		}, f, other)
		if !slices.Equal(room, before) {
			t.Fatalf("%+v: its Data, or the room behind it, has become %v", f, room)
		}
		if g.Id != f.Id || g.Remote != f.Remote || g.Len != f.Len || len(g.Data) != len(f.Data) {
			t.Fatalf("%+v has become %+v", f, g)
		}
	}
}

// Promise 20, for this layer: what was answered stays when the argument is changed, and another call tells the change.
func TestFramesKeepNothing(t *testing.T) {
	data := []int64{1, 2, 3}
	f := impl.Frame{Id: 40, Len: 3, Data: data}
	first, firstHead := impl.BodyOf(f), impl.HeadOf(f)
	want := bodyByEye(f)
	data[0], data[2] = 200, 7
	if first != want || firstHead != want[:19] {
		t.Errorf("what was answered has become %q, %q", first, firstHead)
	}
	checkRight(t, f)
	data[1] = 256
	checkWrong(t, f)
	data[1] = 255
	for range 3 {
		checkRight(t, f)
		checkSame(t, f, f, true)
		checkSame(t, f, dataFrame(40, 200, 255, 8), false)
		checkWrong(t, impl.Frame{Id: 40, Len: 2, Data: data})
	}
}
