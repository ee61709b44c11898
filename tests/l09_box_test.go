package tests

import (
	"math"
	"slices"
	"testing"

	"loop.example/g00753/impl"
)

// flatAll are all the fields of these frames: alike just where all frames are.
func flatAll(frames []impl.Frame) []int64 {
	var all []int64
	for _, f := range frames {
		all = append(append(all, int64(len(f.Data))), flat(f)...)
	}
	return all
}

// boxByEye holds each rank against all those behind it.
func boxByEye(box []impl.Frame) bool {
	var ranks []int64
	for _, f := range box {
		ranks = append(ranks, rankByEye(f))
	}
	for i, rank := range ranks {
		if rank < 0 || i > 15 || slices.ContainsFunc(ranks[i+1:], func(behind int64) bool { return behind <= rank }) {
			return false
		}
	}
	return true
}

// takenByEye leaves out whoever has that rank.
func takenByEye(box []impl.Frame, rank int64) []impl.Frame {
	if !boxByEye(box) {
		return nil
	}
	return slices.DeleteFunc(slices.Clone(box), func(f impl.Frame) bool { return rankByEye(f) == rank })
}

// putByEye sets the frame between those of the lesser ranks and those of the greater ones, and tells by how many there
// are then what was done.
func putByEye(box []impl.Frame, f impl.Frame) ([]impl.Frame, int64) {
	if !boxByEye(box) {
		return nil, impl.BxBad
	}
	if !rightByEye(f) {
		return box, impl.BxBad
	}
	var ahead, behind []impl.Frame
	rank := rankByEye(f)
	for _, g := range box {
		switch other := rankByEye(g); {
		case other < rank:
			ahead = append(ahead, g)
		case other > rank:
			behind = append(behind, g)
		}
	}
	list := slices.Concat(ahead, []impl.Frame{f}, behind)
	switch {
	case len(list) == len(box):
		return list, impl.BxOver
	case len(list) > 16:
		return box, impl.BxFull
	}
	return list, impl.BxOk
}

// boxOf is a box of frames of these ranks, each with bytes of its own.
func boxOf(ranks ...int64) []impl.Frame {
	var box []impl.Frame
	for _, rank := range ranks {
		box = append(box, frameOfRank(rank, uint32(rank)))
	}
	return box
}

// everySecond are so many ranks, from first on, between any two of which there is one more.
func everySecond(first, count int64) []int64 {
	var ranks []int64
	for i := range count {
		ranks = append(ranks, first+2*i)
	}
	return ranks
}

// fullBox has no room for one more: its ranks are 4, 6 and so on, up to 34.
func fullBox() []impl.Frame {
	return boxOf(everySecond(4, 16)...)
}

// checkOwn fails where writing into the frames, into the Data of each of them and into the room behind these changes
// what is held, or where two of these Data share memory.
func checkOwn(t *testing.T, frames []impl.Frame, held ...func() []int64) {
	t.Helper()
	var before [][]int64
	for _, h := range held {
		before = append(before, h())
	}
	var rooms [][]int64
	for i, f := range frames[:cap(frames)] {
		rooms = append(rooms, f.Data[:cap(f.Data)])
		frames[:cap(frames)][i] = impl.Frame{Id: -5, Len: 55}
	}
	for i, room := range rooms {
		for k := range room {
			room[k] = int64(-1000 - i)
		}
	}
	for i, room := range rooms {
		if slices.ContainsFunc(room, func(n int64) bool { return n != int64(-1000-i) }) {
			t.Fatalf("the Data of frame %d of an answer is that of another one, too", i)
		}
	}
	for i, h := range held {
		if !slices.Equal(h(), before[i]) {
			t.Fatal("an answer shares memory with an argument")
		}
	}
}

func checkBox(t *testing.T, box []impl.Frame, want bool) {
	t.Helper()
	given, held := listWithRoom(box)
	before := held()
	if ok := impl.BoxOk(given); ok != want {
		t.Fatalf("BoxOk %+v: %v", box, ok)
	}
	if !slices.Equal(held(), before) {
		t.Fatalf("BoxOk has written into %+v, or behind it", box)
	}
}

// checkPut fails where PutIn does not answer these frames and this code, where it writes into its arguments, and where
// the answer is not new memory.
func checkPut(t *testing.T, box []impl.Frame, f impl.Frame, want []impl.Frame, code int64) {
	t.Helper()
	given, held := listWithRoom(box)
	g, room := withRoom(f)
	before, roomBefore := held(), slices.Clone(room)
	after, told := impl.PutIn(given, g)
	if told != code || !slices.Equal(flatAll(after), flatAll(want)) {
		t.Fatalf("PutIn %+v, %+v: code %d, %+v, not %d, %+v", box, f, told, after, code, want)
	}
	if !slices.Equal(held(), before) || !slices.Equal(room, roomBefore) {
		t.Fatalf("PutIn has written into %+v or %+v, or behind them", box, f)
	}
	checkOwn(t, after, held, func() []int64 { return slices.Clone(room) })
}

func checkTaken(t *testing.T, box []impl.Frame, rank int64, want []impl.Frame) {
	t.Helper()
	given, held := listWithRoom(box)
	before := held()
	after := impl.TakenOut(given, rank)
	if !slices.Equal(flatAll(after), flatAll(want)) {
		t.Fatalf("TakenOut %+v, %d: %+v, not %+v", box, rank, after, want)
	}
	if !slices.Equal(held(), before) {
		t.Fatalf("TakenOut has written into %+v, or behind it", box)
	}
	checkOwn(t, after, held)
}

// checkPutByEye and checkTakenByEye hold what is answered against what is told in the other way.
func checkPutByEye(t *testing.T, box []impl.Frame, f impl.Frame) int64 {
	t.Helper()
	want, code := putByEye(box, f)
	checkPut(t, box, f, want, code)
	return code
}

func checkTakenByEye(t *testing.T, box []impl.Frame, rank int64) {
	t.Helper()
	checkTaken(t, box, rank, takenByEye(box, rank))
}

func TestBoxConstants(t *testing.T) {
	if impl.MaxBox != 16 {
		t.Errorf("MaxBox is %d", impl.MaxBox)
	}
	if impl.BxOk != 0 || impl.BxOver != 1 || impl.BxFull != 2 || impl.BxBad != 3 {
		t.Errorf("the codes are %d, %d, %d and %d", impl.BxOk, impl.BxOver, impl.BxFull, impl.BxBad)
	}
}

func TestBoxesRightByHand(t *testing.T) {
	low, high := impl.Frame{Id: -1}, impl.Frame{Id: 2048}
	five, ask, six := dataFrame(5, 1), remoteFrame(5, 1), dataFrame(6)
	for _, c := range []struct {
		box []impl.Frame
		ok  bool
	}{
		// Of none, and of one, of each rank at an end.
		{nil, true}, {[]impl.Frame{}, true}, {[]impl.Frame{{}}, true}, {[]impl.Frame{five}, true}, {[]impl.Frame{remoteFrame(2047, 8)}, true},
		// Of 16 and of 17, also where the 17th is alike or not right.
		{boxOf(upTo(0, 14)...), true}, {boxOf(upTo(0, 15)...), true}, {boxOf(upTo(0, 16)...), false}, {boxOf(upTo(0, 99)...), false},
		{fullBox(), true}, {append(fullBox(), dataFrame(17)), false}, {append(fullBox(), remoteFrame(2047, 0)), false}, {append(fullBox(), low), false},
		{boxOf(upTo(4080, 4095)...), true}, {boxOf(upTo(4079, 4095)...), false},
		// Of ranks that rise by one, and by much.
		{[]impl.Frame{five, ask}, true}, {[]impl.Frame{ask, six}, true}, {[]impl.Frame{five, ask, six}, true}, {[]impl.Frame{{}, remoteFrame(2047, 0)}, true},
		// Of two alike, and of one rank that differ in their bytes.
		{[]impl.Frame{five, five}, false}, {[]impl.Frame{five, dataFrame(5, 2)}, false}, {[]impl.Frame{five, dataFrame(5)}, false}, {[]impl.Frame{ask, remoteFrame(5, 2)}, false},
		{[]impl.Frame{{}, {}}, false}, {[]impl.Frame{five, ask, ask}, false}, {[]impl.Frame{five, five, six}, false}, {[]impl.Frame{ask, six, six}, false},
		{[]impl.Frame{{}, five, ask, five}, false}, {[]impl.Frame{five, ask, six, five}, false},
		// Of two in the wrong order: the Id, or the remote one of one Id ahead of the other one.
		{[]impl.Frame{six, five}, false}, {[]impl.Frame{ask, five}, false}, {[]impl.Frame{six, ask}, false}, {[]impl.Frame{five, six, ask}, false}, {[]impl.Frame{six, five, ask}, false},
		{[]impl.Frame{remoteFrame(2047, 0), dataFrame(2047)}, false}, {[]impl.Frame{remoteFrame(0, 0), {}}, false}, {[]impl.Frame{{}, six, five, dataFrame(7)}, false},
		// One is not right: alone, ahead, between, behind, where its rank would rise otherwise.
		{[]impl.Frame{low}, false}, {[]impl.Frame{high}, false}, {[]impl.Frame{low, five}, false}, {[]impl.Frame{five, high}, false}, {[]impl.Frame{low, low}, false},
		{[]impl.Frame{five, {Id: 6, Len: 1}}, false}, {[]impl.Frame{five, dataFrame(6, 256), dataFrame(7)}, false}, {[]impl.Frame{dataFrame(4, -1), five}, false},
		{[]impl.Frame{{Remote: true, Data: []int64{1}}, five}, false}, {[]impl.Frame{five, remoteFrame(6, 9)}, false}, {[]impl.Frame{five, ask, {Id: 6, Data: []int64{0}}}, false},
	} {
		checkBox(t, c.box, c.ok)
		if boxByEye(c.box) != c.ok {
			t.Errorf("%+v is not told in the other way", c.box)
		}
	}
}

func TestPutInByHand(t *testing.T) {
	four, five, ask, six := dataFrame(4, 44), dataFrame(5, 55, 56), remoteFrame(5, 3), dataFrame(6)
	other := dataFrame(5, 77)
	for _, c := range []struct {
		box  []impl.Frame
		f    impl.Frame
		want []impl.Frame
		code int64
	}{
		// Into an empty box.
		{nil, five, []impl.Frame{five}, impl.BxOk}, {[]impl.Frame{}, impl.Frame{}, []impl.Frame{{}}, impl.BxOk},
		{nil, remoteFrame(2047, 8), []impl.Frame{remoteFrame(2047, 8)}, impl.BxOk},
		// Ahead of all, between two, behind all; the remote one of an Id is behind the other one.
		{[]impl.Frame{five, six}, four, []impl.Frame{four, five, six}, impl.BxOk},
		{[]impl.Frame{four, six}, five, []impl.Frame{four, five, six}, impl.BxOk},
		{[]impl.Frame{four, five}, six, []impl.Frame{four, five, six}, impl.BxOk},
		{[]impl.Frame{four, five, six}, ask, []impl.Frame{four, five, ask, six}, impl.BxOk},
		{[]impl.Frame{ask}, five, []impl.Frame{five, ask}, impl.BxOk}, {[]impl.Frame{five}, ask, []impl.Frame{five, ask}, impl.BxOk},
		{[]impl.Frame{{}}, remoteFrame(2047, 0), []impl.Frame{{}, remoteFrame(2047, 0)}, impl.BxOk},
		// In the place of one of that rank, alone, first, in the middle, last; by the rank alone, so the bytes are new ones.
		{[]impl.Frame{five}, other, []impl.Frame{other}, impl.BxOver}, {[]impl.Frame{five}, five, []impl.Frame{five}, impl.BxOver},
		{[]impl.Frame{five, ask, six}, other, []impl.Frame{other, ask, six}, impl.BxOver},
		{[]impl.Frame{four, five, six}, other, []impl.Frame{four, other, six}, impl.BxOver},
		{[]impl.Frame{four, five}, other, []impl.Frame{four, other}, impl.BxOver},
		{[]impl.Frame{four, five, ask}, remoteFrame(5, 8), []impl.Frame{four, five, remoteFrame(5, 8)}, impl.BxOver},
		{[]impl.Frame{five, ask}, dataFrame(5), []impl.Frame{dataFrame(5), ask}, impl.BxOver},
		{[]impl.Frame{six}, dataFrame(6, 1, 2, 3, 4, 5, 6, 7, 8), []impl.Frame{dataFrame(6, 1, 2, 3, 4, 5, 6, 7, 8)}, impl.BxOver},
		// What is not right, into a right box: as it is.
		{nil, impl.Frame{Id: -1}, nil, impl.BxBad}, {[]impl.Frame{four, five}, impl.Frame{Id: 2048}, []impl.Frame{four, five}, impl.BxBad},
		{[]impl.Frame{four, five}, dataFrame(5, 256), []impl.Frame{four, five}, impl.BxBad}, {[]impl.Frame{ask}, remoteFrame(5, 9), []impl.Frame{ask}, impl.BxBad},
		{fullBox(), impl.Frame{Id: -1}, fullBox(), impl.BxBad}, {fullBox(), dataFrame(4, -1), fullBox(), impl.BxBad}, {fullBox(), impl.Frame{Id: 3, Len: 2}, fullBox(), impl.BxBad},
		// A box that is not right, with a right frame and with one that is not: nothing.
		{[]impl.Frame{six, five}, four, nil, impl.BxBad}, {[]impl.Frame{five, five}, five, nil, impl.BxBad}, {[]impl.Frame{{Id: -1}}, four, nil, impl.BxBad},
		{append(fullBox(), six), six, nil, impl.BxBad}, {boxOf(upTo(0, 16)...), dataFrame(1), nil, impl.BxBad},
		{[]impl.Frame{six, five}, impl.Frame{Id: -1}, nil, impl.BxBad}, {[]impl.Frame{{Id: -1}}, impl.Frame{Id: -1}, nil, impl.BxBad},
	} {
		checkPut(t, c.box, c.f, c.want, c.code)
	}
}

// Where there are 15, each new rank goes in; where there are 16, none does, but one that is there is put over, wherever
// it stands.
func TestPutInWhereFull(t *testing.T) {
	full := fullBox()
	for missing := range full {
		fifteen := slices.Delete(fullBox(), missing, missing+1)
		checkPut(t, fifteen, full[missing], full, impl.BxOk)
		for rank := range int64(60) {
			f := frameOfRank(rank, 5)
			met := slices.ContainsFunc(fifteen, func(g impl.Frame) bool { return rankByEye(g) == rank })
			if code := checkPutByEye(t, fifteen, f); code == impl.BxFull || (code == impl.BxOver) != met {
				t.Fatalf("rank %d where there are 15: code %d", rank, code)
			}
		}
	}
	for rank := range int64(4096) {
		f := frameOfRank(rank, 12)
		if rank < 4 || rank > 34 || rank%2 == 1 {
			checkPut(t, full, f, full, impl.BxFull)
			continue
		}
		want := slices.Clone(full)
		want[rank/2-2] = f
		checkPut(t, full, f, want, impl.BxOver)
	}
}

func TestTakenOutByHand(t *testing.T) {
	four, five, ask, six := dataFrame(4, 44), dataFrame(5, 55, 56), remoteFrame(5, 3), dataFrame(6)
	box := []impl.Frame{four, five, ask, six}
	for _, c := range []struct {
		box  []impl.Frame
		rank int64
		want []impl.Frame
	}{
		// The first, one in the middle, the last, the only one; the remote one and the other one of an Id are two.
		{box, 8, []impl.Frame{five, ask, six}}, {box, 10, []impl.Frame{four, ask, six}}, {box, 11, []impl.Frame{four, five, six}}, {box, 12, []impl.Frame{four, five, ask}},
		{[]impl.Frame{five}, 10, nil}, {[]impl.Frame{ask}, 11, nil}, {[]impl.Frame{{}}, 0, nil}, {[]impl.Frame{remoteFrame(2047, 8)}, 4095, nil},
		{[]impl.Frame{five, ask}, 10, []impl.Frame{ask}}, {[]impl.Frame{five, ask}, 11, []impl.Frame{five}},
		// A rank that none has: all of them.
		{box, 0, box}, {box, 7, box}, {box, 9, box}, {box, 13, box}, {box, 4095, box}, {box, 4096, box}, {box, -1, box}, {box, -8, box}, {box, -11, box},
		{box, math.MaxInt64, box}, {box, math.MinInt64, box}, {box, 10 + 1<<32, box}, {box, 4096 + 10, box}, {box, 5, box}, {box, 1, box},
		{nil, 0, nil}, {nil, -1, nil}, {[]impl.Frame{}, 10, nil}, {[]impl.Frame{{}}, -1, []impl.Frame{{}}}, {[]impl.Frame{{}}, 1, []impl.Frame{{}}},
		{fullBox(), -1, fullBox()}, {fullBox(), 5, fullBox()}, {fullBox(), 4, fullBox()[1:]}, {fullBox(), 34, fullBox()[:15]},
		// A box that is not right: nothing, whether the rank is there or not.
		{[]impl.Frame{six, five}, 10, nil}, {[]impl.Frame{six, five}, 99, nil}, {[]impl.Frame{five, five}, 10, nil}, {[]impl.Frame{four, five, five}, 8, nil},
		{[]impl.Frame{{Id: -1}}, -1, nil}, {[]impl.Frame{{Id: -1}, five}, -1, nil}, {[]impl.Frame{five, {Id: 2048}}, 10, nil}, {[]impl.Frame{dataFrame(5, 256)}, 10, nil},
		{boxOf(upTo(0, 16)...), 3, nil}, {append(fullBox(), dataFrame(18)), 36, nil}, {append(fullBox(), dataFrame(18)), -1, nil},
	} {
		checkTaken(t, c.box, c.rank, c.want)
	}
}

// Each rank out of a full box, and some past each end.
func TestTakenOutEachRank(t *testing.T) {
	for _, box := range [][]impl.Frame{fullBox(), boxOf(upTo(4080, 4095)...), boxOf(0, 1, 2, 700, 2047, 2048, 4095), boxOf(9)} {
		for rank := int64(-20); rank < 4120; rank++ {
			checkTakenByEye(t, box, rank)
		}
		for _, rank := range farNumbers {
			checkTaken(t, box, rank, box)
		}
	}
}

// Each rank that there is, alone, ahead of one that is there, behind it, and in its place.
func TestPutInEachRank(t *testing.T) {
	for rank := range int64(4096) {
		f := frameOfRank(rank, uint32(rank+3))
		checkPut(t, nil, f, []impl.Frame{f}, impl.BxOk)
		for _, other := range []int64{0, 1, 2047, 2048, 4095, rank ^ 1, rank} {
			checkPutByEye(t, []impl.Frame{frameOfRank(other, 4)}, f)
		}
		checkPutByEye(t, boxOf(3, 700, 701, 2047, 2048, 4000, 4001), f)
		checkTaken(t, []impl.Frame{f}, rank, nil)
	}
}

// eachSubset calls with the frames of each set of the ranks from first to last of which there are at least so many.
func eachSubset(first, last int64, least int, call func(box []impl.Frame)) {
	ranks := upTo(first, last)
	for set := range 1 << len(ranks) {
		var some []int64
		for i, rank := range ranks {
			if set>>i&1 == 1 {
				some = append(some, rank)
			}
		}
		if len(some) >= least {
			call(boxOf(some...))
		}
	}
}

// Each box of the ranks 2 to 8, with each frame of the ranks 0 to 10, by two seeds, and each of these ranks taken out.
func TestEachSmallBox(t *testing.T) {
	eachSubset(2, 8, 0, func(box []impl.Frame) {
		checkBox(t, box, true)
		for rank := range int64(11) {
			checkPutByEye(t, box, frameOfRank(rank, 3))
			checkPutByEye(t, box, frameOfRank(rank, uint32(rank)))
			checkTakenByEye(t, box, rank)
		}
		checkTakenByEye(t, box, -1)
	})
}

// Each box of at least 15 of the ranks 2 to 18, and the list of all 17, which is no box.
func TestEachGreatBox(t *testing.T) {
	eachSubset(2, 18, 15, func(box []impl.Frame) {
		checkBox(t, box, len(box) <= 16)
		for rank := range int64(21) {
			checkPutByEye(t, box, frameOfRank(rank, 9))
			checkTakenByEye(t, box, rank)
		}
	})
}

// Each list of at most 4 of few frames: boxes and what is none.
func TestBoxEachShortList(t *testing.T) {
	right, wrong := 0, 0
	eachList(fewKinds(), 4, func(list []impl.Frame) {
		ok := boxByEye(list)
		if ok {
			right++
		} else {
			wrong++
		}
		checkBox(t, list, ok)
		for _, f := range fewKinds() {
			checkPutByEye(t, list, f)
		}
		for _, rank := range []int64{-1, 16, 17, 18, 19, 20} {
			checkTakenByEye(t, list, rank)
		}
	})
	if right < 20 || wrong < 1000 {
		t.Errorf("%d boxes, %d that are none", right, wrong)
	}
}

// One that is not right at each place of a box, ahead of all and behind all; and as what is put in, the box being full
// or not.
func TestBoxWrongFrames(t *testing.T) {
	boxes := [][]impl.Frame{nil, boxOf(10), boxOf(0, 10, 4095), boxOf(everySecond(4, 15)...), fullBox()}
	for _, wrong := range append(wrongFrames(), wrongEach()...) {
		for _, box := range boxes {
			checkPut(t, box, wrong, box, impl.BxBad)
			for place := 0; place <= len(box); place += 5 {
				list := slices.Insert(slices.Clone(box), place, wrong)
				checkBox(t, list, false)
				checkPut(t, list, frameOfRank(10, 3), nil, impl.BxBad)
				checkPut(t, list, wrong, nil, impl.BxBad)
				checkTaken(t, list, 10, nil)
				checkTaken(t, list, -1, nil)
			}
		}
	}
}

// Each two of a full box changed with each other, and each rank made that of another one: it is a box no longer.
func TestBoxWrongOrder(t *testing.T) {
	for i := range 16 {
		for k := range i {
			list := fullBox()
			list[i], list[k] = list[k], list[i]
			checkBox(t, list, false)
			checkPut(t, list, dataFrame(5), nil, impl.BxBad)
			checkTaken(t, list, 10, nil)
			list[k] = list[i]
			checkBox(t, list, false)
			checkPut(t, list, dataFrame(5), nil, impl.BxBad)
			checkTaken(t, list, 10, nil)
		}
	}
}

// Boxes of each size, of ranks without a plain pattern.
func TestBoxesMixed(t *testing.T) {
	for seed := range uint32(600) {
		numbers := someBytes(int(seed%20)*2, seed)
		var ranks []int64
		for i := 0; i < len(numbers); i += 2 {
			ranks = append(ranks, numbers[i]*16+numbers[i+1]%16)
		}
		if seed%3 > 0 {
			slices.Sort(ranks)
			ranks = slices.Compact(ranks)
		}
		box := boxOf(ranks...)
		checkBox(t, box, boxByEye(box))
		for _, rank := range append(ranks, 0, 4095, int64(seed)) {
			checkPutByEye(t, box, frameOfRank(rank, seed))
			checkPutByEye(t, box, frameOfRank(rank^1, seed+1))
			checkTakenByEye(t, box, rank)
			checkTakenByEye(t, box, rank^1)
		}
	}
}

// ofRank are those that have that rank, and all other ones, in order.
func ofRank(box []impl.Frame, rank int64) (those, others []impl.Frame) {
	for _, f := range box {
		if impl.RankOf(f) == rank {
			those = append(those, f)
		} else {
			others = append(others, f)
		}
	}
	return those, others
}

// checkPromise9 puts the frame into a right box, and takes its rank out again: each answer is a box, what was put in is
// there once, what was taken out is not there, all others are as they were. It answers the box with the frame.
func checkPromise9(t *testing.T, box []impl.Frame, f impl.Frame) []impl.Frame {
	t.Helper()
	with, code := impl.PutIn(box, f)
	was, others := ofRank(box, impl.RankOf(f))
	is, still := ofRank(with, impl.RankOf(f))
	if !impl.BoxOk(with) || !slices.Equal(flatAll(others), flatAll(still)) {
		t.Fatalf("with %+v the box %+v has become %+v", f, box, with)
	}
	there := len(is) == 1 && impl.SameFrame(is[0], f)
	switch {
	case code == impl.BxOk && there && len(was) == 0:
	case code == impl.BxOver && there && len(was) == 1:
	case code == impl.BxFull && len(is) == 0 && len(was) == 0 && len(box) == 16:
	default:
		t.Fatalf("%+v put into %+v: code %d, and %+v", f, box, code, with)
	}
	without := impl.TakenOut(with, impl.RankOf(f))
	gone, left := ofRank(without, impl.RankOf(f))
	if !impl.BoxOk(without) || len(gone) != 0 || !slices.Equal(flatAll(left), flatAll(others)) {
		t.Fatalf("%+v taken out of %+v leaves %+v", f, with, without)
	}
	return with
}

// Promise 9, with each frame put into each box of few ranks.
func TestPromise9EachSmallBox(t *testing.T) {
	eachSubset(0, 6, 0, func(box []impl.Frame) {
		for rank := range int64(8) {
			for seed := range uint32(9) {
				checkPromise9(t, box, frameOfRank(rank, seed))
			}
		}
	})
}

// Promise 9, of boxes that grow from nothing till they are full, and beyond: ranks that rise, that fall, and without order.
func TestPromise9Growing(t *testing.T) {
	for step := int64(1); step < 4096; step += 2 {
		var box []impl.Frame
		for i := range int64(25) {
			box = checkPromise9(t, box, frameOfRank(i*step%4096, uint32(i)))
			if int64(len(box)) != min(i+1, 16) {
				t.Fatalf("with %d put in there are %d", i+1, len(box))
			}
		}
	}
}

// Promise 9, of long plays: much is put in and taken out again, of few ranks and of many; each answer is held against
// the one told in the other way.
func TestPromise9Played(t *testing.T) {
	met := map[int64]int{}
	for seed := range uint32(40) {
		ranks := []int64{5, 20, 40, 4096}[seed%4]
		numbers := someBytes(1500, seed)
		var box, told []impl.Frame
		for i := 0; i < len(numbers); i += 3 {
			rank := (numbers[i]*256 + numbers[i+1]) % ranks
			if numbers[i+2]%8 < int64(seed%5) {
				if len(box) > 0 && numbers[i+2]%2 == 0 {
					rank = impl.RankOf(box[int(rank)%len(box)])
				}
				box, told = impl.TakenOut(box, rank), takenByEye(told, rank)
			} else {
				f := frameOfRank(rank, uint32(numbers[i+2]))
				checkPromise9(t, box, f)
				var code, byEye int64
				box, code = impl.PutIn(box, f)
				told, byEye = putByEye(told, f)
				if code != byEye {
					t.Fatalf("%+v: code %d, not %d", f, code, byEye)
				}
				met[code]++
			}
			if !impl.BoxOk(box) || !slices.Equal(flatAll(box), flatAll(told)) {
				t.Fatalf("there is %+v, not %+v", box, told)
			}
		}
	}
	if len(met) != 3 || met[impl.BxOk] < 500 || met[impl.BxOver] < 500 || met[impl.BxFull] < 500 {
		t.Error(met)
	}
}

// Promise 20, for this layer: every function answers at every argument and none panics; no argument is written into,
// nor the spare room behind it.
func TestBoxesAnswerAtAll(t *testing.T) {
	list := slices.Concat(rightFrames(), wrongFrames(), wrongEach())
	huge := []impl.Frame{{Len: 8, Data: make([]int64, 100000)}, {Remote: true, Data: make([]int64, 100000)}}
	boxes := [][]impl.Frame{nil, {}, boxOf(7), fullBox(), boxOf(upTo(0, 16)...), wrongEach(), list, huge, slices.Repeat([]impl.Frame{{}}, 1<<16)}
	for from := 0; from+17 < len(list); from += 83 {
		boxes = append(boxes, list[from:from+1], list[from:from+4], list[from:from+16], list[from:from+17])
	}
	for i, box := range boxes {
		given, held := listWithRoom(box)
		before := held()
		for k := range 40 {
			f, room := withRoom(append(huge, list...)[(i+k*k*7)%(len(list)+2)])
			roomBefore := slices.Clone(room)
			rank := farNumbers[k%len(farNumbers)] - int64(k%3)
			mustAnswer(t, func() {
				impl.BoxOk(given)
				impl.PutIn(given, f)
				impl.TakenOut(given, rank)
				impl.TakenOut(given, int64(k)-2)
			}, len(box), f, rank)
			if !slices.Equal(room, roomBefore) {
				t.Fatalf("%+v, or the room behind its Data, is changed", f)
			}
		}
		if !slices.Equal(held(), before) {
			t.Fatalf("a list of %d, or the room behind it, is changed", len(box))
		}
	}
}

// Promise 20, for this layer: an answer is new memory where the box is as it is, too, and where the box and the frame
// share memory with each other.
func TestBoxesAreNew(t *testing.T) {
	shared := []int64{1, 2, 3, 4, 5, 6, 7, 8, 9}
	held := func() []int64 { return slices.Clone(shared) }
	of := func(id int64, size int) impl.Frame { return impl.Frame{Id: id, Len: int64(size), Data: shared[:size]} }
	box := []impl.Frame{of(1, 8), of(2, 0), of(3, 4), of(4, 8)}
	for _, f := range []impl.Frame{of(0, 8), of(2, 3), of(3, 4), of(4, 8), of(9, 1), {Id: -1, Data: shared}} {
		with, code := impl.PutIn(box, f)
		want, byEye := putByEye(box, f)
		if code != byEye || !slices.Equal(flatAll(with), flatAll(want)) {
			t.Fatalf("%+v: code %d, %+v", f, code, with)
		}
		checkOwn(t, with, held, func() []int64 { return flatAll(box) })
	}
	for _, rank := range []int64{2, 4, 6, 8, 3, -1} {
		checkOwn(t, impl.TakenOut(box, rank), held, func() []int64 { return flatAll(box) })
	}
	// What is put in is one of the box itself.
	for _, f := range box {
		with, code := impl.PutIn(box, f)
		if code != impl.BxOver || !slices.Equal(flatAll(with), flatAll(box)) {
			t.Fatalf("%+v: code %d, %+v", f, code, with)
		}
		checkOwn(t, with, held, func() []int64 { return flatAll(box) })
	}
	// Of two answers to the same call each has its own.
	first, _ := impl.PutIn(box, of(9, 5))
	second, _ := impl.PutIn(box, of(9, 5))
	checkOwn(t, first, func() []int64 { return flatAll(second) })
	first, second = impl.TakenOut(box, -1), impl.TakenOut(box, -1)
	checkOwn(t, first, func() []int64 { return flatAll(second) })
}

// Promise 20, for this layer: nothing is kept from call to call; another call tells what was changed in between.
func TestBoxesKeepNothing(t *testing.T) {
	box := boxOf(4, 6, 8)
	f := dataFrame(5, 1, 2)
	for range 3 {
		checkPutByEye(t, box, f)
		checkBox(t, box, true)
		f.Data[1] = 256
		checkPut(t, box, f, box, impl.BxBad)
		f.Data[1] = 255
		checkPut(t, box, f, append(slices.Clone(box), f), impl.BxOk)
		box[1].Id = 2
		checkBox(t, box, false)
		checkPut(t, box, f, nil, impl.BxBad)
		checkTaken(t, box, 8, nil)
		box[1].Id = 3
		checkTaken(t, box, 8, box[:2])
		checkPut(t, nil, f, []impl.Frame{f}, impl.BxOk)
		f.Data[1] = 2
	}
}
