package tests

import (
	"math"
	"slices"
	"testing"

	"loop.example/g00753/impl"
)

// forAll lets each Id pass, forOne only that one.
var forAll = impl.Filter{}

func forOne(id int64) impl.Filter {
	return impl.Filter{Mask: 2047, Code: id}
}

func rightId(n int64) bool {
	return 0 <= n && n <= 2047
}

// passesByEye goes through the bits of each filter one by one, as digits of the numbers.
func passesByEye(list []impl.Filter, id int64) bool {
	if !rightId(id) || slices.ContainsFunc(list, func(f impl.Filter) bool { return !rightId(f.Mask) || !rightId(f.Code) }) {
		return false
	}
	return len(list) == 0 || slices.ContainsFunc(list, func(f impl.Filter) bool {
		for worth := int64(1); worth < 2048; worth *= 2 {
			if f.Mask/worth%2 == 1 && id/worth%2 != f.Code/worth%2 {
				return false
			}
		}
		return true
	})
}

// checkPasses fails where Passes is not want, also where filters stand in the spare room behind the list: some that are
// not right, and one that lets all pass; and where it writes into any of them.
func checkPasses(t *testing.T, list []impl.Filter, id int64, want bool) {
	t.Helper()
	behind := []impl.Filter{forAll, {Mask: -1}, {Code: 2048}}
	for _, room := range [][]impl.Filter{nil, behind, behind[1:]} {
		given := append(slices.Clone(list), room...)
		before := slices.Clone(given)
		if passes := impl.Passes(given[:len(list)], id); passes != want {
			t.Fatalf("Passes %+v, %d: %v", list, id, passes)
		}
		if !slices.Equal(given, before) {
			t.Fatalf("Passes %+v, %d has written into the filters, or behind them: %+v", list, id, given)
		}
	}
}

func checkPassesByEye(t *testing.T, list []impl.Filter, id int64) bool {
	t.Helper()
	want := passesByEye(list, id)
	checkPasses(t, list, id, want)
	return want
}

// pushedByEye counts what is there, one by one.
func pushedByEye(fifo []impl.Frame, f impl.Frame) ([]impl.Frame, bool) {
	room := 32
	var list []impl.Frame
	for _, g := range fifo {
		list = append(list, g)
		room--
	}
	if room <= 0 || !rightByEye(f) {
		return list, false
	}
	return append(list, f), true
}

// checkPushed fails where PushedIn does not answer these frames and this truth, where it writes into its arguments, and
// where the answer is not new memory.
func checkPushed(t *testing.T, fifo []impl.Frame, f impl.Frame, want []impl.Frame, ok bool) {
	t.Helper()
	given, held := listWithRoom(fifo)
	g, room := withRoom(f)
	before, roomBefore := held(), slices.Clone(room)
	after, told := impl.PushedIn(given, g)
	if told != ok || !slices.Equal(flatAll(after), flatAll(want)) {
		t.Fatalf("PushedIn %+v, %+v: %v, %+v, not %v, %+v", fifo, f, told, after, ok, want)
	}
	if !slices.Equal(held(), before) || !slices.Equal(room, roomBefore) {
		t.Fatalf("PushedIn has written into %+v or %+v, or behind them", fifo, f)
	}
	checkOwn(t, after, held, func() []int64 { return slices.Clone(room) })
}

func checkPushedByEye(t *testing.T, fifo []impl.Frame, f impl.Frame) bool {
	t.Helper()
	want, ok := pushedByEye(fifo, f)
	checkPushed(t, fifo, f, want, ok)
	return ok
}

// heard are so many right frames without an order; some of them are alike.
func heard(count int) []impl.Frame {
	kinds := rightFrames()
	var fifo []impl.Frame
	for i := range count {
		fifo = append(fifo, kinds[i*i*31%len(kinds)])
	}
	return fifo
}

func TestFifoConstants(t *testing.T) {
	if impl.MaxFifo != 32 {
		t.Errorf("MaxFifo is %d", impl.MaxFifo)
	}
}

func TestPassesByHand(t *testing.T) {
	five, odd := forOne(5), impl.Filter{Mask: 1, Code: 1}
	for _, c := range []struct {
		list []impl.Filter
		id   int64
		ok   bool
	}{
		// Without filters.
		{nil, 0, true}, {nil, 2047, true}, {nil, 1000, true}, {[]impl.Filter{}, 0, true}, {[]impl.Filter{}, 2047, true}, {[]impl.Filter{}, 1, true},
		// With Mask 0: the Code does not count then.
		{[]impl.Filter{forAll}, 0, true}, {[]impl.Filter{forAll}, 2047, true}, {[]impl.Filter{forAll}, 700, true},
		{[]impl.Filter{{Code: 2047}}, 0, true}, {[]impl.Filter{{Code: 2047}}, 2047, true}, {[]impl.Filter{{Code: 1}}, 4, true}, {[]impl.Filter{{Code: 1024}}, 1023, true},
		// With a full Mask: that one alone.
		{[]impl.Filter{five}, 5, true}, {[]impl.Filter{five}, 4, false}, {[]impl.Filter{five}, 6, false}, {[]impl.Filter{five}, 0, false}, {[]impl.Filter{five}, 2047, false}, {[]impl.Filter{five}, 1029, false},
		{[]impl.Filter{forOne(0)}, 0, true}, {[]impl.Filter{forOne(0)}, 1, false}, {[]impl.Filter{forOne(0)}, 1024, false}, {[]impl.Filter{forOne(2047)}, 2047, true}, {[]impl.Filter{forOne(2047)}, 2046, false},
		// With some bits of the Mask: 12 are the bits of 8 and of 4.
		{[]impl.Filter{{Mask: 12, Code: 4}}, 4, true}, {[]impl.Filter{{Mask: 12, Code: 4}}, 7, true}, {[]impl.Filter{{Mask: 12, Code: 4}}, 2036, true}, {[]impl.Filter{{Mask: 12, Code: 4}}, 0, false},
		{[]impl.Filter{{Mask: 12, Code: 4}}, 12, false}, {[]impl.Filter{{Mask: 12, Code: 4}}, 8, false}, {[]impl.Filter{{Mask: 12, Code: 12}}, 8, false}, {[]impl.Filter{{Mask: 12, Code: 0}}, 16, true},
		{[]impl.Filter{{Mask: 1024, Code: 1024}}, 1023, false}, {[]impl.Filter{{Mask: 1024, Code: 1024}}, 1024, true}, {[]impl.Filter{{Mask: 1024}}, 1023, true}, {[]impl.Filter{{Mask: 1024}}, 1024, false},
		{[]impl.Filter{odd}, 1, true}, {[]impl.Filter{odd}, 2046, false}, {[]impl.Filter{{Mask: 1}}, 2046, true}, {[]impl.Filter{{Mask: 1}}, 2047, false},
		// A Code with bits outside its Mask: these do not count.
		{[]impl.Filter{{Mask: 12, Code: 5}}, 4, true}, {[]impl.Filter{{Mask: 12, Code: 5}}, 5, true}, {[]impl.Filter{{Mask: 12, Code: 5}}, 1, false}, {[]impl.Filter{{Mask: 12, Code: 5}}, 13, false},
		{[]impl.Filter{{Mask: 1, Code: 2046}}, 0, true}, {[]impl.Filter{{Mask: 1, Code: 2046}}, 2046, true}, {[]impl.Filter{{Mask: 1, Code: 2046}}, 1, false}, {[]impl.Filter{{Mask: 1024, Code: 2047}}, 1024, true},
		// Of several the first, a middle one, the last, two of them, all or none lets it pass.
		{[]impl.Filter{five, forOne(6), forOne(7)}, 5, true}, {[]impl.Filter{five, forOne(6), forOne(7)}, 6, true}, {[]impl.Filter{five, forOne(6), forOne(7)}, 7, true},
		{[]impl.Filter{five, forOne(6), forOne(7)}, 4, false}, {[]impl.Filter{five, forOne(6), forOne(7)}, 8, false}, {[]impl.Filter{five, odd}, 5, true}, {[]impl.Filter{five, odd}, 4, false},
		{[]impl.Filter{five, five, five}, 5, true}, {[]impl.Filter{five, five, five}, 6, false}, {[]impl.Filter{five, forAll}, 6, true}, {[]impl.Filter{forAll, five}, 6, true}, {[]impl.Filter{forAll, forAll}, 6, true},
		// No two of them together: each one by itself.
		{[]impl.Filter{{Mask: 1, Code: 1}, {Mask: 2, Code: 2}}, 1, true}, {[]impl.Filter{{Mask: 1, Code: 1}, {Mask: 2, Code: 2}}, 0, false}, {[]impl.Filter{{Mask: 3, Code: 1}, {Mask: 3, Code: 2}}, 3, false},
		// More than a node has.
		{slices.Repeat([]impl.Filter{five}, 8), 5, true}, {append(slices.Repeat([]impl.Filter{five}, 8), forOne(6)), 6, true}, {append(slices.Repeat([]impl.Filter{five}, 99), forOne(6)), 7, false},
		// An Id that is none.
		{nil, -1, false}, {nil, 2048, false}, {[]impl.Filter{}, -1, false}, {[]impl.Filter{}, 2048, false}, {[]impl.Filter{forAll}, -1, false}, {[]impl.Filter{forAll}, 2048, false},
		{[]impl.Filter{five}, 5 + 2048, false}, {[]impl.Filter{five}, 5 - 2048, false}, {[]impl.Filter{forOne(2047)}, -1, false}, {[]impl.Filter{forOne(0)}, 2048, false}, {[]impl.Filter{{Mask: 1}}, 4096, false},
		// A filter that is not right, by its Mask or by its Code, alone and beside one that lets the Id pass.
		{[]impl.Filter{{Mask: -1}}, 0, false}, {[]impl.Filter{{Mask: 2048}}, 0, false}, {[]impl.Filter{{Code: -1}}, 0, false}, {[]impl.Filter{{Code: 2048}}, 0, false},
		{[]impl.Filter{{Mask: -1, Code: 5}}, 5, false}, {[]impl.Filter{{Mask: 2047, Code: 5 + 2048}}, 5, false}, {[]impl.Filter{{Mask: 4095, Code: 5}}, 5, false}, {[]impl.Filter{{Mask: 2048, Code: 2048}}, 5, false},
		{[]impl.Filter{{Mask: 2048}, five}, 5, false}, {[]impl.Filter{five, {Mask: 2048}}, 5, false}, {[]impl.Filter{five, {Code: -1}, five}, 5, false}, {[]impl.Filter{forAll, {Code: 2048}}, 9, false}, {[]impl.Filter{{Mask: -1}, forAll}, 9, false},
	} {
		checkPasses(t, c.list, c.id, c.ok)
		if passesByEye(c.list, c.id) != c.ok {
			t.Errorf("%+v, %d is not told in the other way", c.list, c.id)
		}
	}
}

// Promise 10, at each right Id; one that is not right does not pass, with all of these.
func TestPromise10(t *testing.T) {
	lists := [][]impl.Filter{nil, {}, {forAll}, {forAll, forAll}, {forOne(9), forAll}, {forAll, forOne(9)}, {forOne(9), forAll, {Mask: 7, Code: 1}}, slices.Repeat([]impl.Filter{forAll}, 8)}
	for _, list := range lists {
		for id := range int64(2048) {
			checkPasses(t, list, id, true)
		}
		for _, id := range append(wrongIds(), -7, -1024, 2049, 2056) {
			checkPasses(t, list, id, false)
		}
	}
}

// wrongIds are no Ids; of many of them some bits would be right, if only these counted.
func wrongIds() []int64 {
	return append([]int64{-1, -2, 2048, 2050, 3000, math.MinInt64 + 9, math.MaxInt64 - 2047}, farNumbers...)
}

// With Mask 0 each Code lets all pass; with a full Mask each lets that one pass, and no other one: none with one bit
// turned over, none beside it.
func TestPassesEachCode(t *testing.T) {
	for code := range int64(2048) {
		for _, id := range []int64{0, 1, code, 2047 - code, 2047} {
			checkPasses(t, []impl.Filter{{Code: code}}, id, true)
			checkPasses(t, []impl.Filter{forOne(code)}, id, id == code)
		}
		for worth := int64(1); worth < 2048; worth *= 2 {
			checkPasses(t, []impl.Filter{forOne(code)}, code^worth, false)
			checkPasses(t, []impl.Filter{{Mask: worth, Code: code}}, code^worth, false)
			checkPasses(t, []impl.Filter{{Mask: worth, Code: code}}, code^(2047-worth), true)
			checkPasses(t, []impl.Filter{{Mask: 2047 - worth, Code: code}}, code^worth, true)
		}
	}
	for id := range int64(2048) {
		for code := range int64(2048) {
			if impl.Passes([]impl.Filter{forOne(code)}, id) != (code == id) {
				t.Fatalf("Id %d, of which %d alone may pass", id, code)
			}
		}
	}
}

// Each filter of three bits, at each place of the Id, with each Id of these three bits and some others beside them.
func TestPassesEachFilterOfThreeBits(t *testing.T) {
	for shift := 0; shift <= 8; shift++ {
		for n := range int64(512) {
			f := impl.Filter{Mask: n % 8 << shift, Code: n / 8 % 8 << shift}
			id := n / 64 << shift
			within := (id^f.Code)&f.Mask == 0
			checkPasses(t, []impl.Filter{f}, id, within)
			checkPasses(t, []impl.Filter{f}, id|^(7<<shift)&2047, within)
			checkPassesByEye(t, []impl.Filter{f}, id)
		}
	}
}

// eachFilters calls with every list of these filters, of at most so many.
func eachFilters(kinds []impl.Filter, most int, call func(list []impl.Filter)) {
	lists := [][]impl.Filter{nil}
	for size := 0; size <= most; size++ {
		var longer [][]impl.Filter
		for _, list := range lists {
			call(list)
			for _, f := range kinds {
				longer = append(longer, append(slices.Clone(list), f))
			}
		}
		lists = longer
	}
}

// Every list of few filters, right ones and such as are not.
func TestPassesEachShortList(t *testing.T) {
	kinds := []impl.Filter{forAll, forOne(5), forOne(6), {Mask: 1, Code: 1}, {Mask: 6, Code: 2047}, {Mask: 2048, Code: 5}, {Mask: 7, Code: -1}}
	passed, stopped := 0, 0
	eachFilters(kinds, 4, func(list []impl.Filter) {
		for _, id := range []int64{0, 5, 6, 7, 1024, 2048, -1} {
			if checkPassesByEye(t, list, id) {
				passed++
			} else {
				stopped++
			}
		}
	})
	if passed < 2000 || stopped < 10000 {
		t.Errorf("%d have passed, %d not", passed, stopped)
	}
}

// One filter that is not right, at each place of a list; the others would let the Id pass.
func TestPassesWrongFilters(t *testing.T) {
	for _, n := range wrongIds() {
		for _, wrong := range []impl.Filter{{Mask: n}, {Code: n}, {Mask: n, Code: 5}, {Mask: 2047, Code: n}, {Mask: n, Code: n}, {Mask: 5, Code: n}} {
			for size := range 9 {
				for place := 0; place <= size; place++ {
					for _, others := range []impl.Filter{forAll, forOne(5), forOne(6)} {
						list := slices.Insert(slices.Repeat([]impl.Filter{others}, size), place, wrong)
						checkPasses(t, list, 5, false)
						checkPasses(t, list, n, false)
					}
				}
			}
		}
	}
}

// Lists of all sizes, of filters without a plain pattern.
func TestPassesMixed(t *testing.T) {
	passed, stopped := 0, 0
	for seed := range uint32(4000) {
		size := int(seed % 13)
		numbers := someBytes(size*4+4, seed)
		at := func(place int) int64 { return (numbers[2*place]*256 + numbers[2*place+1]) % 2048 }
		var list []impl.Filter
		for i := range size {
			list = append(list, impl.Filter{Mask: at(2*i+1) & at(2*i+2), Code: at(2*i + 3)})
		}
		for _, id := range []int64{at(0), at(1), 2047 - at(0), 0} {
			if checkPassesByEye(t, list, id) {
				passed++
			} else {
				stopped++
			}
		}
	}
	if passed < 2000 || stopped < 2000 {
		t.Errorf("%d have passed, %d not", passed, stopped)
	}
}

func TestPushedInByHand(t *testing.T) {
	five, ask, six := dataFrame(5, 55, 56), remoteFrame(5, 3), dataFrame(6)
	full := heard(32)
	low, wrongByte := impl.Frame{Id: -1}, dataFrame(7, 256)
	for _, c := range []struct {
		fifo []impl.Frame
		f    impl.Frame
		want []impl.Frame
		ok   bool
	}{
		// Into nil and into an empty list; behind one, behind several; the zero Frame is right.
		{nil, five, []impl.Frame{five}, true}, {[]impl.Frame{}, five, []impl.Frame{five}, true}, {nil, impl.Frame{}, []impl.Frame{{}}, true}, {nil, remoteFrame(2047, 8), []impl.Frame{remoteFrame(2047, 8)}, true},
		{[]impl.Frame{five}, six, []impl.Frame{five, six}, true}, {[]impl.Frame{five, ask}, six, []impl.Frame{five, ask, six}, true},
		// Behind the others, whatever the ranks are; one that is alike, or of that rank, is there twice.
		{[]impl.Frame{six}, five, []impl.Frame{six, five}, true}, {[]impl.Frame{six, ask}, impl.Frame{}, []impl.Frame{six, ask, {}}, true}, {[]impl.Frame{ask}, five, []impl.Frame{ask, five}, true},
		{[]impl.Frame{five}, five, []impl.Frame{five, five}, true}, {[]impl.Frame{five}, dataFrame(5), []impl.Frame{five, dataFrame(5)}, true}, {[]impl.Frame{five, six, ask}, six, []impl.Frame{five, six, ask, six}, true},
		// Behind 30 and behind 31; where there are 32, 33 and more there is no room.
		{heard(30), five, append(heard(30), five), true}, {heard(31), five, append(heard(31), five), true}, {full, five, full, false}, {full, full[0], full, false}, {full, full[31], full, false},
		{heard(33), five, heard(33), false}, {heard(64), five, heard(64), false}, {heard(300), five, heard(300), false}, {make([]impl.Frame, 32), impl.Frame{}, make([]impl.Frame, 32), false},
		// What is not right: as it is, where there is room and where there is none.
		{nil, low, nil, false}, {nil, wrongByte, nil, false}, {[]impl.Frame{five, six}, low, []impl.Frame{five, six}, false}, {[]impl.Frame{five}, impl.Frame{Id: 2048}, []impl.Frame{five}, false},
		{[]impl.Frame{five, six}, remoteFrame(5, 9), []impl.Frame{five, six}, false}, {heard(31), wrongByte, heard(31), false}, {full, low, full, false}, {full, wrongByte, full, false}, {heard(33), low, heard(33), false},
		// Behind some that are not right: these stay as they are.
		{[]impl.Frame{low}, five, []impl.Frame{low, five}, true}, {[]impl.Frame{five, wrongByte, low}, six, []impl.Frame{five, wrongByte, low, six}, true}, {[]impl.Frame{low, wrongByte}, low, []impl.Frame{low, wrongByte}, false},
		{slices.Repeat([]impl.Frame{wrongByte}, 31), five, append(slices.Repeat([]impl.Frame{wrongByte}, 31), five), true},
		{slices.Repeat([]impl.Frame{wrongByte}, 32), five, slices.Repeat([]impl.Frame{wrongByte}, 32), false},
	} {
		checkPushed(t, c.fifo, c.f, c.want, c.ok)
	}
}

// From nothing on, one behind the other, till there is no room, and beyond; each one that is not right in between
// changes nothing.
func TestPushedInTillFull(t *testing.T) {
	wrong := wrongEach()
	for from, frames := 0, rightFrames(); from < len(frames); from += 7 {
		var fifo, told []impl.Frame
		for i := range 36 {
			f := frames[(from+i*i)%len(frames)]
			checkPushed(t, fifo, wrong[(from+i)%len(wrong)], told, false)
			if ok := checkPushedByEye(t, fifo, f); ok != (i < 32) {
				t.Fatalf("behind %d: %v", i, ok)
			}
			fifo, _ = impl.PushedIn(fifo, f)
			if i < 32 {
				told = append(told, f)
			}
			if !slices.Equal(flatAll(fifo), flatAll(told)) {
				t.Fatalf("there is %+v, not %+v", fifo, told)
			}
		}
	}
}

// Each frame, right or not, into lists of some sizes.
func TestPushedInEachFrame(t *testing.T) {
	lists := [][]impl.Frame{nil, heard(1), heard(2), heard(17), heard(31), heard(32), heard(33), wrongEach()[:20], slices.Repeat(wrongEach(), 2)[:33]}
	for _, f := range slices.Concat(rightFrames(), wrongFrames(), wrongEach()) {
		for _, fifo := range lists {
			if checkPushedByEye(t, fifo, f) != (impl.FrameOk(f) && len(fifo) < 32) {
				t.Fatalf("%+v into %d", f, len(fifo))
			}
		}
	}
}

// Promise 20, for this layer: every function answers at every argument and none panics; no argument is written into,
// nor the spare room behind it.
func TestFifosAnswerAtAll(t *testing.T) {
	numbers := slices.Concat(farNumbers, wrongIds(), []int64{0, 1, 5, 1024, 2046, 2047})
	long := make([]impl.Filter, 1<<16)
	for i := range long {
		long[i] = impl.Filter{Mask: int64(i), Code: int64(-i)}
	}
	filters := [][]impl.Filter{nil, {}, long, long[:1], long[1:], slices.Repeat([]impl.Filter{forOne(5)}, 1<<16)}
	for i, n := range numbers {
		filters = append(filters, []impl.Filter{{Mask: n, Code: numbers[(i*7+3)%len(numbers)]}}, []impl.Filter{forAll, {Mask: numbers[i*3%len(numbers)], Code: n}, forAll})
	}
	for _, list := range filters {
		before := slices.Clone(list)
		for _, id := range numbers {
			mustAnswer(t, func() { impl.Passes(list, id) }, len(list), id)
		}
		if !slices.Equal(list, before) {
			t.Fatalf("a list of %d filters is changed", len(list))
		}
	}
	frames := slices.Concat(rightFrames(), wrongFrames(), wrongEach())
	huge := []impl.Frame{{Len: 8, Data: make([]int64, 100000)}, {Remote: true, Data: make([]int64, 100000)}}
	fifos := [][]impl.Frame{nil, {}, heard(7), heard(32), wrongEach(), frames, huge, slices.Repeat([]impl.Frame{{}}, 1<<16)}
	for i, fifo := range fifos {
		given, held := listWithRoom(fifo)
		before := held()
		for k := range 60 {
			f := append(huge, frames...)[(i+k*k*7)%(len(frames)+2)]
			mustAnswer(t, func() { impl.PushedIn(given, f) }, len(fifo), f)
		}
		if !slices.Equal(held(), before) {
			t.Fatalf("a list of %d, or the room behind it, is changed", len(fifo))
		}
	}
}

// Promise 20, for this layer: an answer is new memory where the list is as it is, too, and where the list and the frame
// share memory with each other.
func TestFifosAreNew(t *testing.T) {
	shared := []int64{1, 2, 3, 4, 5, 6, 7, 8, 9}
	held := func() []int64 { return slices.Clone(shared) }
	of := func(id int64, size int) impl.Frame { return impl.Frame{Id: id, Len: int64(size), Data: shared[:size]} }
	few := []impl.Frame{of(4, 8), of(2, 0), of(4, 8), of(-1, 4), of(1, 9)}
	for _, fifo := range [][]impl.Frame{few, slices.Repeat(few, 9)[:31], slices.Repeat(few, 9)[:32], slices.Repeat(few, 9)} {
		// One of its own is among what is pushed in.
		for _, f := range []impl.Frame{of(0, 8), of(2, 3), of(9, 0), of(-1, 8), of(9, 9), fifo[0], fifo[3]} {
			after, ok := impl.PushedIn(fifo, f)
			want, byEye := pushedByEye(fifo, f)
			if ok != byEye || !slices.Equal(flatAll(after), flatAll(want)) {
				t.Fatalf("%+v into %d: %v, %+v", f, len(fifo), ok, after)
			}
			second, _ := impl.PushedIn(fifo, f)
			checkOwn(t, after, held, func() []int64 { return flatAll(fifo) }, func() []int64 { return flatAll(second) })
		}
	}
}

// Promise 20, for this layer: nothing is kept from call to call; another call tells what was changed in between.
func TestFifosKeepNothing(t *testing.T) {
	list := []impl.Filter{forOne(5), forOne(6)}
	fifo := heard(3)
	f := dataFrame(5, 1, 2)
	for range 3 {
		checkPasses(t, list, 6, true)
		list[1].Code = 7
		checkPasses(t, list, 6, false)
		list[0].Mask = 2048
		checkPasses(t, list, 7, false)
		list[0].Mask, list[1].Code = 2047, 6
		checkPasses(t, list, 5, true)
		checkPasses(t, nil, 9, true)
		checkPushed(t, fifo, f, append(slices.Clone(fifo), f), true)
		f.Data[1] = 256
		checkPushed(t, fifo, f, fifo, false)
		f.Data[1] = 255
		fifo[1].Id = (fifo[1].Id + 1) % 2048
		checkPushed(t, fifo, f, append(slices.Clone(fifo), f), true)
		checkPushed(t, nil, f, []impl.Frame{f}, true)
		f.Data[1] = 2
	}
}
