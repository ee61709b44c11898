package tests

import (
	"math"
	"slices"
	"sort"
	"testing"

	"loop.example/g00753/impl"
)

// rightByEye tells in another way than the program whether a frame is right.
func rightByEye(f impl.Frame) bool {
	count := f.Len
	if f.Remote {
		count = 0
	}
	return uint64(f.Id) < 2048 && uint64(f.Len) < 9 && int64(len(f.Data)) == count &&
		!slices.ContainsFunc(f.Data, func(b int64) bool { return uint64(b) > 255 })
}

// rankByEye reads the rank off the body: the Id and the bit that tells of remote stand side by side there.
func rankByEye(f impl.Frame) int64 {
	if !rightByEye(f) {
		return -1
	}
	return numberByEye(bodyByEye(f)[1:13])
}

// winnerByEye lets all right ones say the bits of their bodies at once, as on the wire: who says 1 where another one
// says 0 falls silent. So those of the least rank are left; of these it is the first one.
func winnerByEye(list []impl.Frame) int64 {
	var left []int
	for i, f := range list {
		if rightByEye(f) {
			left = append(left, i)
		}
	}
	for place := range 13 {
		silent := func(i int) bool { return bodyByEye(list[i])[place] == '1' }
		if slices.ContainsFunc(left, func(i int) bool { return !silent(i) }) {
			left = slices.DeleteFunc(left, silent)
		}
	}
	if len(left) == 0 {
		return -1
	}
	return int64(left[0])
}

// partByEye looks for the first size of which the two bodies do not begin alike.
func partByEye(one, other string) int64 {
	shorter := min(len(one), len(other))
	return int64(sort.Search(shorter, func(size int) bool { return one[:size+1] != other[:size+1] }))
}

func checkRank(t *testing.T, f impl.Frame, want int64) {
	t.Helper()
	if rank := impl.RankOf(f); rank != want {
		t.Fatalf("RankOf %+v: %d, not %d", f, rank, want)
	}
}

func checkWinner(t *testing.T, list []impl.Frame, want int64) {
	t.Helper()
	if winner := impl.WinnerOf(list); winner != want {
		t.Fatalf("WinnerOf %+v: %d, not %d", list, winner, want)
	}
}

// checkPart fails where ParesAt of the two, in either order, is not want.
func checkPart(t *testing.T, a, b impl.Frame, want int64) {
	t.Helper()
	if part := impl.ParesAt(a, b); part != want {
		t.Fatalf("ParesAt %+v and %+v: %d, not %d", a, b, part, want)
	}
	if part := impl.ParesAt(b, a); part != want {
		t.Fatalf("ParesAt %+v and %+v: %d, not %d", b, a, part, want)
	}
}

// wrongEach are frames that are wrong, each of them in one way alone; if it were right, many of them would be ahead of
// all other ones.
func wrongEach() []impl.Frame {
	return []impl.Frame{
		{Id: -1}, {Id: 2048}, {Id: math.MinInt64}, {Id: math.MaxInt64}, remoteFrame(-1, 0), remoteFrame(2048, 0), remoteFrame(math.MinInt64, 0),
		{Len: 1}, {Len: 2, Data: []int64{0}}, {Data: []int64{0}}, {Len: 1, Data: []int64{0, 0}}, {Len: 9, Data: make([]int64, 9)},
		{Len: -1}, {Len: math.MinInt64}, {Len: math.MaxInt64}, remoteFrame(0, -1), remoteFrame(0, 9), remoteFrame(0, math.MaxInt64),
		{Remote: true, Data: []int64{0}}, {Remote: true, Len: 1, Data: []int64{0}}, {Remote: true, Len: 8, Data: make([]int64, 8)},
		dataFrame(0, -1), dataFrame(0, 256), dataFrame(0, 0, math.MinInt64), dataFrame(0, math.MaxInt64, 0),
		dataFrame(0, 1, 2, 3, 4, 5, 6, 7, 256), dataFrame(0, -1, 2, 3, 4, 5, 6, 7, 8),
	}
}

func TestRanksByHand(t *testing.T) {
	for _, c := range []struct {
		f    impl.Frame
		rank int64
	}{
		// The least and the greatest Id, remote and not; the zero Frame is right.
		{impl.Frame{}, 0}, {remoteFrame(0, 0), 1}, {impl.Frame{Id: 2047}, 4094}, {remoteFrame(2047, 0), 4095},
		// Two of one Id of which one is remote.
		{dataFrame(5), 10}, {remoteFrame(5, 0), 11}, {dataFrame(1), 2}, {remoteFrame(1, 8), 3}, {dataFrame(1024), 2048}, {remoteFrame(1023, 0), 2047},
		// Neither the Len nor a byte counts.
		{dataFrame(0, 255), 0}, {remoteFrame(0, 8), 1}, {dataFrame(700, 0), 1400}, {dataFrame(700, 1, 2, 3, 4, 5, 6, 7, 8), 1400}, {remoteFrame(700, 3), 1401},
		{dataFrame(2047, 255, 255, 255, 255, 255, 255, 255, 255), 4094}, {remoteFrame(2047, 8), 4095},
	} {
		checkRank(t, c.f, c.rank)
	}
}

func TestRankRight(t *testing.T) {
	manyFrames(func(f impl.Frame) {
		checkRank(t, f, rankByEye(f))
	})
}

func TestRankWrong(t *testing.T) {
	for _, f := range append(wrongFrames(), wrongEach()...) {
		checkRank(t, f, -1)
	}
}

// Each Id that there is, and some past each end: without a byte, with some, and remote with each Len, one past each
// end included.
func TestRankEachId(t *testing.T) {
	for id := int64(-300); id <= 2400; id++ {
		rank, remoteRank := id+id, id+id+1
		if id < 0 || id > 2047 {
			rank, remoteRank = -1, -1
		}
		checkRank(t, dataFrame(id), rank)
		checkRank(t, dataFrame(id, 0, 255), rank)
		checkRank(t, dataFrame(id, 0, 256), -1)
		checkRank(t, impl.Frame{Id: id, Len: 1}, -1)
		for size := range int64(9) {
			checkRank(t, remoteFrame(id, size), remoteRank)
		}
		checkRank(t, remoteFrame(id, -1), -1)
		checkRank(t, remoteFrame(id, 9), -1)
	}
}

// No two kinds of frames, by Id and remote, have one rank; the ranks are just the numbers from 0 to 4095.
func TestRankNoneTwice(t *testing.T) {
	met := map[int64]bool{}
	for id := range int64(2048) {
		met[impl.RankOf(dataFrame(id, 7))] = true
		met[impl.RankOf(remoteFrame(id, 1))] = true
	}
	for rank := range int64(4096) {
		if !met[rank] {
			t.Errorf("no frame has the rank %d", rank)
		}
	}
	if len(met) != 4096 {
		t.Errorf("%d ranks", len(met))
	}
}

func TestWinnersByHand(t *testing.T) {
	five, ask, four := dataFrame(5), remoteFrame(5, 0), remoteFrame(4, 0)
	low, high := impl.Frame{Id: -1}, impl.Frame{Id: 2048}
	for _, c := range []struct {
		list []impl.Frame
		want int64
	}{
		// Of none, and of one.
		{nil, -1}, {[]impl.Frame{}, -1}, {make([]impl.Frame, 0, 5), -1}, {[]impl.Frame{five}, 0}, {[]impl.Frame{{}}, 0},
		{[]impl.Frame{low}, -1}, {[]impl.Frame{high}, -1}, {[]impl.Frame{remoteFrame(2047, 8)}, 0},
		// The less rank is the earlier, wherever it stands.
		{[]impl.Frame{five, ask, four}, 2}, {[]impl.Frame{four, ask, five}, 0}, {[]impl.Frame{ask, four, five}, 1},
		{[]impl.Frame{five, ask}, 0}, {[]impl.Frame{ask, five}, 1}, {[]impl.Frame{remoteFrame(2047, 0), dataFrame(2047)}, 1},
		{[]impl.Frame{remoteFrame(0, 0), {}}, 1}, {[]impl.Frame{dataFrame(1), remoteFrame(0, 8)}, 1},
		// Of several with the least rank the first one, whatever else is in them.
		{[]impl.Frame{five, five}, 0}, {[]impl.Frame{five, five, five}, 0}, {[]impl.Frame{ask, five, five}, 1},
		{[]impl.Frame{five, four, four}, 1}, {[]impl.Frame{five, four, ask, four, four}, 1}, {[]impl.Frame{four, five, four, four}, 0},
		{[]impl.Frame{dataFrame(5, 255), dataFrame(5, 0)}, 0}, {[]impl.Frame{dataFrame(5, 0), dataFrame(5, 255)}, 0},
		{[]impl.Frame{dataFrame(5, 1, 2), five, dataFrame(5, 0)}, 0}, {[]impl.Frame{remoteFrame(5, 8), remoteFrame(5, 0)}, 0},
		// Some are wrong: the first, the last, those between, all; they keep their places, but never win.
		{[]impl.Frame{low, five, four}, 2}, {[]impl.Frame{five, four, low}, 1}, {[]impl.Frame{high, five, high}, 1},
		{[]impl.Frame{low, high, four, low, four, high}, 2}, {[]impl.Frame{five, low, ask, low, four, low, four, low}, 4},
		{[]impl.Frame{low, high}, -1}, {[]impl.Frame{low, low, low, high, high, high, low}, -1},
		{[]impl.Frame{{Len: 1}, dataFrame(0, 256), {Remote: true, Data: []int64{0}}, remoteFrame(2047, 0)}, 3},
	} {
		checkWinner(t, c.list, c.want)
	}
}

// eachList calls with each list of at most so many of these frames, in each order.
func eachList(kinds []impl.Frame, most int, call func(list []impl.Frame)) {
	var list []impl.Frame
	var longer func()
	longer = func() {
		call(list)
		if len(list) == most {
			return
		}
		for _, f := range kinds {
			list = append(list, f)
			longer()
			list = list[:len(list)-1]
		}
	}
	longer()
}

// fewKinds are right frames, two of them of one rank, and wrong ones.
func fewKinds() []impl.Frame {
	return []impl.Frame{dataFrame(9), dataFrame(9, 0), remoteFrame(9, 0), dataFrame(8, 255), remoteFrame(8, 8), {Id: -1}, {Len: 3}}
}

// Each list of at most 5 of these, in each order.
func TestWinnerEachShortList(t *testing.T) {
	eachList(fewKinds(), 5, func(list []impl.Frame) {
		checkWinner(t, list, winnerByEye(list))
	})
}

// One wrong frame of each kind, and many, ahead of right ones, behind them, and on both sides; and alone.
func TestWinnerAmongWrong(t *testing.T) {
	for _, wrong := range append(wrongFrames(), wrongEach()...) {
		for _, right := range [][]impl.Frame{{remoteFrame(2047, 8)}, {dataFrame(2047), dataFrame(2046, 1)}, {dataFrame(3), dataFrame(3)}} {
			want := winnerByEye(right)
			for _, count := range []int{1, 2, 7} {
				wrongs := slices.Repeat([]impl.Frame{wrong}, count)
				checkWinner(t, wrongs, -1)
				checkWinner(t, slices.Concat(wrongs, right), int64(count)+want)
				checkWinner(t, slices.Concat(right, wrongs), want)
				checkWinner(t, slices.Concat(wrongs, right, wrongs), int64(count)+want)
			}
		}
	}
	all := append(wrongFrames(), wrongEach()...)
	checkWinner(t, all, -1)
	for _, place := range []int{0, 1, 2, 3, 100, len(all) - 1, len(all)} {
		checkWinner(t, slices.Insert(slices.Clone(all), place, remoteFrame(2047, 0)), int64(place))
	}
}

// Long lists: of one rank alone, rising, falling, and with the least rank at each place, once and twice.
func TestWinnerLongLists(t *testing.T) {
	var alike, rising, falling []impl.Frame
	for id := range int64(300) {
		alike = append(alike, dataFrame(77, 255-id%256))
		rising = append(rising, dataFrame(id))
		falling = append(falling, remoteFrame(2047-id, id%9))
	}
	for size := 1; size <= 300; size++ {
		checkWinner(t, alike[:size], 0)
		checkWinner(t, rising[:size], 0)
		checkWinner(t, falling[:size], int64(size)-1)
	}
	for first := range alike {
		list := slices.Clone(alike)
		list[first] = dataFrame(76, 255)
		checkWinner(t, list, int64(first))
		for second := first + 1; second < len(list); second += 37 {
			list[second] = dataFrame(76)
			checkWinner(t, list, int64(first))
		}
	}
	many := slices.Repeat([]impl.Frame{{Id: -1}, dataFrame(2047, 9), remoteFrame(1, 0)}, 50000)
	checkWinner(t, many, 2)
	many[149999] = dataFrame(1)
	checkWinner(t, many, 149999)
}

// Lists without a plain pattern, with few ranks, so that many are of one rank, and with many; some frames are wrong.
func TestWinnerMixedLists(t *testing.T) {
	for seed := range uint32(2000) {
		numbers := someBytes(int(seed%40)*2, seed)
		var list []impl.Frame
		for i := 0; i < len(numbers); i += 2 {
			id := numbers[i] * 8
			if seed%2 == 0 {
				id = numbers[i] % 3
			}
			switch numbers[i+1] % 4 {
			case 0:
				list = append(list, impl.Frame{Id: id, Len: 9})
			case 1:
				list = append(list, remoteFrame(id, numbers[i+1]%9))
			default:
				list = append(list, dataFrame(id, someBytes(int(numbers[i+1]%9), seed)...))
			}
		}
		checkWinner(t, list, winnerByEye(list))
	}
}

func TestPartsByHand(t *testing.T) {
	eight := dataFrame(100, 1, 2, 4, 8, 16, 32, 64, 128)
	for _, c := range []struct {
		a, b impl.Frame
		want int64
	}{
		// At the first bit of the Id, in its middle, at its last bit.
		{impl.Frame{}, impl.Frame{Id: 1024}, 1}, {dataFrame(1023), dataFrame(1024), 1}, {dataFrame(5), dataFrame(1029), 1},
		{impl.Frame{}, impl.Frame{Id: 2047}, 1}, {dataFrame(0), dataFrame(32), 6}, {impl.Frame{}, impl.Frame{Id: 1}, 11}, {dataFrame(2046), dataFrame(2047), 11},
		{dataFrame(2046, 255), remoteFrame(2047, 8), 11}, {remoteFrame(4, 0), dataFrame(5), 11},
		// At the remote bit, whatever stands behind it.
		{impl.Frame{}, remoteFrame(0, 0), 12}, {dataFrame(5), remoteFrame(5, 0), 12}, {dataFrame(2047, 1, 2), remoteFrame(2047, 2), 12}, {eight, remoteFrame(100, 8), 12},
		// At each bit of the Len; the one body is longer then, or both are remote.
		{dataFrame(7), eightOf(7, 0), 15}, {eightOf(7, 255), dataFrame(7, 255, 255, 255, 255, 255, 255, 255), 15}, {remoteFrame(7, 7), remoteFrame(7, 8), 15},
		{dataFrame(7, 0, 0, 0), dataFrame(7, 0, 0, 0, 0), 16}, {remoteFrame(7, 0), remoteFrame(7, 4), 16}, {dataFrame(7), dataFrame(7, 1, 2), 17},
		{remoteFrame(7, 5), remoteFrame(7, 6), 17}, {dataFrame(7), dataFrame(7, 0), 18}, {dataFrame(7, 9, 9), dataFrame(7, 9, 9, 9), 18}, {remoteFrame(7, 0), remoteFrame(7, 1), 18},
		// At a bit of the first byte, of one between and of the last one.
		{dataFrame(7, 0), dataFrame(7, 128), 19}, {dataFrame(7, 0), dataFrame(7, 1), 26}, {dataFrame(7, 16, 1), dataFrame(7, 24, 2), 23},
		{dataFrame(7, 255, 0), dataFrame(7, 255, 128), 27}, {dataFrame(7, 1, 2, 3), dataFrame(7, 1, 130, 3), 27}, {dataFrame(7, 9, 254), dataFrame(7, 9, 255), 34},
		{eight, changedAt(eight, 0, 129), 19}, {eight, changedAt(eight, 0, 0), 26}, {eight, changedAt(eight, 7, 0), 75}, {eight, changedAt(eight, 7, 129), 82},
		// Two that are alike, in other memory: the end of both.
		{impl.Frame{}, impl.Frame{Data: []int64{}}, 19}, {dataFrame(5), dataFrame(5), 19}, {remoteFrame(2047, 8), remoteFrame(2047, 8), 19},
		{dataFrame(7, 3), dataFrame(7, 3), 27}, {eightOf(7, 255), eightOf(7, 255), 83}, {eight, changedAt(eight, 7, 128), 83},
	} {
		checkPart(t, c.a, c.b, c.want)
	}
	// A frame and itself.
	for _, f := range []impl.Frame{{}, dataFrame(5), remoteFrame(9, 8), dataFrame(7, 0, 1), eight} {
		checkPart(t, f, f, int64(19+8*len(f.Data)))
	}
}

// eightOf is a frame with that byte eight times.
func eightOf(id, b int64) impl.Frame {
	return dataFrame(id, slices.Repeat([]int64{b}, 8)...)
}

// All pairs of right frames, in other memory where they are alike.
func TestPartsRight(t *testing.T) {
	list := rightFrames()
	var bodies []string
	for _, f := range list {
		bodies = append(bodies, bodyByEye(f))
	}
	for i, a := range list {
		for k, b := range list[:i+1] {
			b.Data = slices.Clone(b.Data)
			checkPart(t, a, b, partByEye(bodies[i], bodies[k]))
		}
	}
}

// Pairs that differ in one bit of the body alone, at each place where right frames of one Len can: there they part.
func TestPartsEachBit(t *testing.T) {
	for size := range 9 {
		for seed := range uint32(30) {
			f := dataFrame(int64(seed*197%2048), someBytes(size, seed)...)
			for bit := range int64(11) {
				other := f
				other.Id ^= 1024 >> bit
				checkPart(t, f, other, 1+bit)
			}
			for place := range size {
				for bit := range 8 {
					other := changedAt(f, place, f.Data[place]^128>>bit)
					checkPart(t, f, other, int64(19+8*place+bit))
					// Where they part the first time counts, whatever follows.
					for later := place + 1; later < size; later++ {
						checkPart(t, f, changedAt(other, later, 255-f.Data[later]), int64(19+8*place+bit))
					}
				}
			}
		}
	}
}

// Of one Id each Len with each other one, remote and not: of bodies that are not equally long, too, none begins the other.
func TestPartsEachLen(t *testing.T) {
	for a := range 9 {
		for b := range 9 {
			want := partByEye(bodyByEye(remoteFrame(1365, int64(a))), bodyByEye(remoteFrame(1365, int64(b))))
			if a != b && (want < 15 || want > 18) {
				t.Fatal(a, b, want)
			}
			checkPart(t, remoteFrame(1365, int64(a)), remoteFrame(1365, int64(b)), want)
			checkPart(t, dataFrame(1365, someBytes(a, 1)...), remoteFrame(1365, int64(b)), 12)
			if a != b {
				checkPart(t, dataFrame(1365, someBytes(a, 1)...), dataFrame(1365, someBytes(b, 1)...), want)
			}
		}
	}
}

// The end of the shorter one is answered of two that are alike, and of no others.
func TestPartsAtTheEnd(t *testing.T) {
	list := rightFrames()
	for i, a := range list {
		for _, b := range list[i:min(i+80, len(list))] {
			part, alike := impl.ParesAt(a, b), slices.Equal(flat(a), flat(b))
			if atEnd := part >= int64(min(len(bodyByEye(a)), len(bodyByEye(b)))); atEnd != alike {
				t.Fatalf("%+v and %+v: %d", a, b, part)
			}
		}
	}
}

// A wrong frame as the one, as the other and as both; a wrong one and itself, too.
func TestPartsWrong(t *testing.T) {
	right := []impl.Frame{{}, dataFrame(5), remoteFrame(2047, 8), dataFrame(5, 1, 2, 3, 4, 5, 6, 7, 8)}
	wrong := append(wrongFrames(), wrongEach()...)
	for i, f := range wrong {
		for _, other := range right {
			checkPart(t, f, other, -1)
		}
		checkPart(t, f, f, -1)
		checkPart(t, f, wrong[(i*7+1)%len(wrong)], -1)
	}
	for _, f := range wrongEach() {
		for _, other := range wrongEach() {
			checkPart(t, f, other, -1)
		}
	}
}

// checkPromise7 tells whether the two are of two ranks; it fails where the one of the lesser rank does not say 0 where
// they part.
func checkPromise7(t *testing.T, a, b impl.Frame) bool {
	t.Helper()
	if impl.RankOf(a) > impl.RankOf(b) {
		a, b = b, a
	}
	part := impl.ParesAt(a, b)
	if part != impl.ParesAt(b, a) {
		t.Fatalf("%+v and %+v part at %d, but at %d the other way", a, b, part, impl.ParesAt(b, a))
	}
	if impl.RankOf(a) == impl.RankOf(b) {
		if part < 13 {
			t.Fatalf("%+v and %+v are of one rank, but part at %d", a, b, part)
		}
		checkWinner(t, []impl.Frame{a, b}, 0)
		checkWinner(t, []impl.Frame{b, a}, 0)
		return false
	}
	one, other := impl.BodyOf(a), impl.BodyOf(b)
	if part < 0 || part > 12 || one[:part] != other[:part] || one[part] != '0' || other[part] != '1' {
		t.Fatalf("%+v is ahead of %+v, but at %d they say %q and %q", a, b, part, one, other)
	}
	checkWinner(t, []impl.Frame{a, b}, 0)
	checkWinner(t, []impl.Frame{b, a}, 1)
	return true
}

// Promise 7: of two frames of two ranks the one of the lesser rank says 0 where they part.
func TestPromise7(t *testing.T) {
	list := rightFrames()
	two := 0
	for i, a := range list {
		for _, b := range list[:i+1] {
			b.Data = slices.Clone(b.Data)
			if checkPromise7(t, a, b) {
				two++
			}
		}
	}
	if one := len(list)*(len(list)+1)/2 - two; two < 50000 || one < 5000 {
		t.Errorf("only %d pairs of two ranks, and %d of one", two, one)
	}
}

// frameOfRank has that rank; its Len and its bytes are by the seed.
func frameOfRank(rank int64, seed uint32) impl.Frame {
	if rank%2 == 1 {
		return remoteFrame(rank/2, int64(seed%9))
	}
	return dataFrame(rank/2, someBytes(int(seed%9), seed)...)
}

// Promise 7, of each rank that there is: with the next ones, with those that are another in one bit, with some far ones.
func TestPromise7EachRank(t *testing.T) {
	for rank := range int64(4096) {
		seed := uint32(rank)
		a := frameOfRank(rank, seed)
		others := []int64{rank, (rank + 1) % 4096, (rank + 2) % 4096, 4095 - rank, (rank*1237 + 99) % 4096, 0, 4095}
		for bit := range 12 {
			others = append(others, rank^1<<bit)
		}
		for i, other := range others {
			b := frameOfRank(other, seed*31+uint32(i))
			if checkPromise7(t, a, b) != (other != rank) {
				t.Fatalf("%+v and %+v: of two ranks or of one", a, b)
			}
		}
	}
}

// Promise 7, of frames of one rank: they part behind the 13 bits, or not at all.
func TestPromise7OneRank(t *testing.T) {
	for _, rank := range []int64{0, 1, 10, 11, 2047, 2048, 4094, 4095} {
		for a := range uint32(60) {
			for b := range uint32(60) {
				if checkPromise7(t, frameOfRank(rank, a), frameOfRank(rank, b)) {
					t.Fatal(rank, a, b)
				}
			}
		}
	}
}

// Promise 7, as it is heard: what is put in ahead of where two part is alike, so the lesser rank says 0 on the wire, too.
func TestPromise7OnTheWire(t *testing.T) {
	for rank := range int64(4096) {
		for _, more := range []int64{1, 2, 3, 64, 777, 2048} {
			if rank+more > 4095 {
				continue
			}
			a, b := frameOfRank(rank, uint32(rank)), frameOfRank(rank+more, uint32(rank+7))
			one, other := impl.WireOf(a), impl.WireOf(b)
			part := partByEye(one, other)
			if one[part] != '0' || other[part] != '1' {
				t.Fatalf("%+v is ahead of %+v, but at %d they say %q and %q", a, b, part, one, other)
			}
		}
	}
}

// withRoom is the frame with its Data in new memory, and that memory: behind the Data there is spare room.
func withRoom(f impl.Frame) (impl.Frame, []int64) {
	room := append(slices.Clone(f.Data), -7, 300, math.MinInt64, 1, 2, 3, 4, 5, 6)
	f.Data = room[:len(f.Data)]
	return f, room
}

// listWithRoom are these frames in new memory, each with room behind its Data, and frames in the spare room behind the
// list; it answers the list, and what all of that memory holds, one number behind the other.
func listWithRoom(frames []impl.Frame) ([]impl.Frame, func() []int64) {
	var all []impl.Frame
	var rooms [][]int64
	for _, f := range append(slices.Clone(frames), impl.Frame{}, impl.Frame{Id: -1}, dataFrame(0, 1, 2), impl.Frame{Len: 77}) {
		g, room := withRoom(f)
		all, rooms = append(all, g), append(rooms, room)
	}
	return all[:len(frames)], func() []int64 {
		held := slices.Concat(rooms...)
		for _, f := range all {
			held = append(append(held, int64(len(f.Data))), flat(f)...)
		}
		return held
	}
}

// Promise 20, for this layer: every function answers at every argument and none panics; no argument is written into,
// nor the spare room behind it.
func TestContestsAnswerAtAll(t *testing.T) {
	list := append(rightFrames(), wrongFrames()...)
	list = append(list, wrongEach()...)
	list = append(list, impl.Frame{Len: 8, Data: make([]int64, 100000)}, impl.Frame{Remote: true, Data: make([]int64, 100000)})
	for i, f := range list {
		other := list[(i*7+1)%len(list)]
		pair, held := listWithRoom([]impl.Frame{f, other})
		before := held()
		mustAnswer(t, func() {
			impl.RankOf(pair[0])
			impl.ParesAt(pair[0], pair[1])
			impl.ParesAt(pair[1], pair[0])
			impl.ParesAt(pair[0], pair[0])
		}, f, other)
		if !slices.Equal(held(), before) {
			t.Fatalf("%+v and %+v have become %+v, or the room behind them is changed", f, other, pair)
		}
	}
}

func TestWinnerAnswersAtAll(t *testing.T) {
	list := slices.Concat(rightFrames(), wrongFrames(), wrongEach())
	falling := slices.Clone(list)
	slices.Reverse(falling)
	long := slices.Repeat([]impl.Frame{{}}, 1<<18)
	for _, frames := range [][]impl.Frame{nil, {}, list, falling, wrongEach(), list[:1], falling[:1], falling[:40], list[100:133], long} {
		given, held := listWithRoom(frames)
		before := held()
		mustAnswer(t, func() { impl.WinnerOf(given) }, len(frames))
		if !slices.Equal(held(), before) {
			t.Fatalf("a list of %d, or the room behind it, is changed", len(frames))
		}
	}
	for size := range 60 {
		for from := 0; from+size < len(falling); from += 61 {
			given, held := listWithRoom(falling[from : from+size])
			before := held()
			mustAnswer(t, func() { impl.WinnerOf(given) }, given)
			if !slices.Equal(held(), before) {
				t.Fatalf("a list of %d has become %+v, or the room behind it is changed", size, given)
			}
		}
	}
}

// Promise 20, for this layer: nothing is kept from call to call; another call tells what was changed in between.
func TestContestsKeepNothing(t *testing.T) {
	data := []int64{1, 2, 3}
	f := impl.Frame{Id: 40, Len: 3, Data: data}
	list := []impl.Frame{remoteFrame(40, 3), f, dataFrame(41)}
	for range 3 {
		checkWinner(t, list, 1)
		data[2] = 256
		checkRank(t, f, -1)
		checkWinner(t, list, 0)
		checkPart(t, f, f, -1)
		data[2] = 255
		checkRank(t, f, 80)
		checkWinner(t, list, 1)
		checkPart(t, f, dataFrame(40, 1, 2, 254), 42)
		list[2].Id = 39
		checkWinner(t, list, 2)
		checkWinner(t, nil, -1)
		checkWinner(t, list[:1], 0)
		list[2].Id = 41
		data[2] = 3
		checkPart(t, f, dataFrame(40, 1, 2, 3), 43)
	}
}
