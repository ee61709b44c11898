package tests

import (
	"math"
	"slices"
	"testing"

	"loop.example/g00753/impl"
)

// shaking is a message that comes with Jitter; its Deadline is its Period.
func shaking(id, bytes, period, jitter int64) impl.Msg {
	return withField(msgOf(id, bytes, period), 3, jitter)
}

// wrongTables are not right, by each code, and by one thing alone.
func wrongTables() [][]impl.Msg {
	wrong, twice := tableOf(5, 3, 9), tableOf(5, 3, 9, 3)
	wrong[1].Node = 6
	tables := [][]impl.Msg{nil, {}, tableOf(upTo(0, 12)...), wrong, twice, make([]impl.Msg, 2), make([]impl.Msg, 13)}
	for _, m := range wrongMsgs() {
		tables = append(tables, []impl.Msg{m}, []impl.Msg{msgOf(1, 1, 100), m, msgOf(2047, 0, 300)})
	}
	return tables
}

func TestBoundsOfWrongTables(t *testing.T) {
	for _, table := range wrongTables() {
		for i := int64(-1); i <= int64(len(table)); i++ {
			checkNoMsg(t, table, i)
		}
		for _, at := range []int64{-1, 0, 1, 100000, 100001} {
			checkDemand(t, table, nil, at, -1)
			checkDemand(t, table, []int64{0, 0}, at, -1)
		}
		checkAdmitted(t, table, false)
	}
}

// Of i below the first one and past the last one there is nothing; of the first and the last one there is.
func TestBoundsOfNoMsg(t *testing.T) {
	for _, table := range [][]impl.Msg{{msgOf(5, 0, 200)}, tableOf(7, 3), fullTable()} {
		size := int64(len(table))
		for _, i := range append([]int64{-2, -1, size, size + 1, 12}, farNumbers...) {
			checkNoMsg(t, table, i)
		}
		for _, i := range []int64{0, size - 1} {
			_, busy := impl.BusyOf(table, i)
			_, wait := impl.WaitOf(table, i, 0)
			_, bound := impl.BoundOf(table, i)
			if !busy || !wait || !bound || impl.BlockOf(table, i) < 0 || impl.CountOf(table, i) < 1 || impl.DemandOf(table, []int64{i}, 1) < 55 {
				t.Errorf("nothing of %d of %+v", i, table)
			}
		}
		checkBounds(t, table)
	}
}

func TestBlockOfByHand(t *testing.T) {
	for _, c := range []struct {
		table []impl.Msg
		want  []int64
	}{
		{[]impl.Msg{msgOf(5, 8, 200)}, []int64{0}},
		{[]impl.Msg{msgOf(0, 8, 200), msgOf(2047, 0, 200)}, []int64{55, 0}},
		{[]impl.Msg{msgOf(2047, 8, 200), msgOf(0, 0, 200)}, []int64{0, 135}},
		{[]impl.Msg{msgOf(6, 4, 200), msgOf(7, 4, 200)}, []int64{95, 0}},
		// The Id tells, not the place and not the cost; what goes ahead does not count, nor does the message itself.
		{[]impl.Msg{msgOf(5, 2, 200), msgOf(9, 0, 200), msgOf(7, 1, 200)}, []int64{65, 0, 55}},
		{[]impl.Msg{msgOf(9, 8, 200), msgOf(7, 3, 200), msgOf(5, 0, 200)}, []int64{0, 135, 135}},
		{[]impl.Msg{msgOf(9, 0, 200), msgOf(7, 3, 200), msgOf(5, 8, 200)}, []int64{0, 55, 85}},
		{[]impl.Msg{msgOf(1, 8, 200), msgOf(2, 7, 200), msgOf(3, 0, 200), msgOf(4, 5, 200), msgOf(5, 1, 200)}, []int64{125, 105, 105, 65, 0}},
		{[]impl.Msg{msgOf(1, 1, 200), msgOf(2, 5, 200), msgOf(3, 0, 200), msgOf(4, 5, 200), msgOf(5, 5, 200)}, []int64{105, 105, 105, 105, 0}},
		// The greatest one, not the next one, and not all of them.
		{[]impl.Msg{msgOf(1, 0, 200), msgOf(2, 1, 200), msgOf(3, 2, 200), msgOf(4, 3, 200)}, []int64{85, 85, 85, 0}},
	} {
		for i, want := range c.want {
			checkBlock(t, c.table, int64(i), want)
		}
		checkBlock(t, c.table, -1, -1)
		checkBlock(t, c.table, int64(len(c.table)), -1)
	}
}

// Neither Period nor Jitter nor Deadline nor Node is in it.
func TestBlockOfOtherFields(t *testing.T) {
	table := fullTable()
	for i := range table {
		for place, n := range []int64{-1, -1, 1, table[i].Period, 1, 5} {
			if n < 0 {
				continue
			}
			other := slices.Clone(table)
			if other[i] = withField(other[i], place, n); place == 2 {
				other[i].Jitter, other[i].Deadline = 1, 1
			}
			for k := range int64(12) {
				checkBlock(t, other, k, blockByEye(table, k))
			}
		}
	}
}

func TestDemandOfByHand(t *testing.T) {
	table := []impl.Msg{msgOf(0, 0, 200), shaking(2, 3, 300, 10), shaking(1, 8, 300, 300), shaking(7, 8, 1, 1)}
	for _, c := range []struct {
		list     []int64
		at, want int64
	}{
		{nil, -1, -1}, {nil, 0, 0}, {nil, 1, 0}, {nil, 100000, 0}, {nil, 100001, -1},
		{[]int64{0}, -1, -1}, {[]int64{0}, 0, 0}, {[]int64{0}, 1, 55}, {[]int64{0}, 100000, 27500}, {[]int64{0}, 100001, -1},
		// t just at a multiple of Period, one below and one above.
		{[]int64{0}, 199, 55}, {[]int64{0}, 200, 55}, {[]int64{0}, 201, 110}, {[]int64{0}, 399, 110}, {[]int64{0}, 400, 110}, {[]int64{0}, 401, 165},
		{[]int64{0}, 99800, 27445}, {[]int64{0}, 99801, 27500}, {[]int64{0}, 99999, 27500},
		// With Jitter.
		{[]int64{1}, 0, 85}, {[]int64{1}, 1, 85}, {[]int64{1}, 289, 85}, {[]int64{1}, 290, 85}, {[]int64{1}, 291, 170}, {[]int64{1}, 589, 170}, {[]int64{1}, 590, 170}, {[]int64{1}, 591, 255},
		{[]int64{1}, 300, 170}, {[]int64{1}, 301, 170}, {[]int64{1}, 100000, 28390}, {[]int64{1}, 100001, -1}, {[]int64{1}, -1, -1},
		// Jitter is Period.
		{[]int64{2}, 0, 135}, {[]int64{2}, 1, 270}, {[]int64{2}, 299, 270}, {[]int64{2}, 300, 270}, {[]int64{2}, 301, 405},
		{[]int64{3}, 0, 135}, {[]int64{3}, 1, 270}, {[]int64{3}, 100000, 13500135},
		// Together, in whatever order; one twice counts twice.
		{[]int64{0, 1}, 200, 140}, {[]int64{1, 0}, 200, 140}, {[]int64{0, 1}, 300, 280}, {[]int64{0, 1, 2}, 290, 110 + 85 + 270}, {[]int64{2, 0, 1}, 0, 220}, {[]int64{3, 2, 1, 0}, 1, 270 + 270 + 85 + 55},
		{[]int64{0, 0}, 200, 110}, {[]int64{0, 0}, 201, 220}, {[]int64{0, 0}, 0, 0}, {[]int64{1, 0, 1}, 0, 170}, {[]int64{0, 0, 0, 0, 0}, 1, 275},
		// One of them is none.
		{[]int64{-1}, 1, -1}, {[]int64{4}, 1, -1}, {[]int64{0, -1}, 1, -1}, {[]int64{0, 4}, 1, -1}, {[]int64{-1, 0}, 1, -1}, {[]int64{4, 0}, 1, -1}, {[]int64{0, 4, 1}, 0, -1}, {[]int64{0, 12}, 1, -1},
		{[]int64{4}, 100001, -1}, {[]int64{-1}, -1, -1},
	} {
		checkDemand(t, table, c.list, c.at, c.want)
	}
	for _, n := range farNumbers {
		checkDemand(t, table, []int64{0}, n, demandByEye(table, []int64{0}, n))
		checkDemand(t, table, nil, n, demandByEye(table, nil, n))
		checkDemand(t, table, []int64{n}, 1, -1)
		checkDemand(t, table, []int64{0, n, 1}, 1, -1)
	}
	// Rounded up one by one, not together: these two have half a Period each.
	checkDemand(t, []impl.Msg{msgOf(1, 0, 200), msgOf(2, 0, 200)}, []int64{0, 1}, 100, 110)
	checkDemand(t, []impl.Msg{msgOf(1, 0, 200), msgOf(2, 1, 200)}, []int64{0, 1}, 300, 240)
}

func TestDemandOfLongLists(t *testing.T) {
	table := fullTable()
	for _, size := range []int{13, 255, 256, 1000, 70000} {
		list := make([]int64, size)
		for i := range list {
			list[i] = int64(i % 12)
		}
		checkDemand(t, table, list, 100000, demandByEye(table, list[:12], 100000)*int64(size/12)+demandByEye(table, list[:size%12], 100000))
		list[size-1] = 12
		checkDemand(t, table, list, 100000, -1)
	}
}

// Each time up to some Periods, and each one at the end of all.
func TestDemandOfEachTime(t *testing.T) {
	table := []impl.Msg{shaking(4, 2, 7, 3), msgOf(3, 0, 10), shaking(9, 5, 20000, 19999)}
	for _, at := range slices.Concat(upTo(-3, 100), upTo(19990, 20010), upTo(99900, 100003)) {
		for _, list := range [][]int64{nil, {0}, {1}, {2}, {0, 1}, {2, 0}, {1, 1}, {0, 1, 2}, {0, 3}} {
			checkDemand(t, table, list, at, demandByEye(table, list, at))
		}
	}
}

// atTheEnd are tables whose last message is busy for just as long as this; limits of 100000 are met by some of them.
var atTheEnd = []struct {
	table []impl.Msg
	busy  int64
}{
	{[]impl.Msg{shaking(0, 7, 295, 292), msgOf(1, 6, 200)}, 100000},
	{[]impl.Msg{shaking(0, 7, 261, 221), msgOf(1, 1, 125)}, 100000},
	{[]impl.Msg{shaking(0, 6, 246, 114), shaking(1, 0, 201, 96), shaking(2, 1, 252, 34)}, 100000},
	{[]impl.Msg{shaking(0, 2, 124, 53), shaking(1, 5, 883, 663), msgOf(2, 0, 200)}, 99995},
	{[]impl.Msg{shaking(0, 0, 95, 45), msgOf(1, 3, 202)}, 99990},
	{[]impl.Msg{msgOf(0, 0, 108), msgOf(1, 4, 274), shaking(2, 2, 521, 21)}, 100005},
	{[]impl.Msg{msgOf(0, 8, 177), shaking(1, 5, 443, 113)}, 100005},
	{[]impl.Msg{msgOf(0, 7, 329), shaking(1, 4, 412, 104), shaking(2, 2, 193, 118)}, 100010},
}

func TestBusyOfByHand(t *testing.T) {
	for _, c := range []struct {
		table []impl.Msg
		i     int64
		want  int64
		ok    bool
	}{
		// One message alone: it begins with its cost, and stays there as long as it comes only once meanwhile. From 0 on it
		// would stay at 0; from 135 on that of 60 would stay at 165.
		{[]impl.Msg{msgOf(5, 0, 200)}, 0, 55, true}, {[]impl.Msg{msgOf(5, 8, 20000)}, 0, 135, true}, {[]impl.Msg{msgOf(5, 0, 60)}, 0, 55, true}, {[]impl.Msg{msgOf(5, 4, 100)}, 0, 95, true},
		{[]impl.Msg{msgOf(5, 0, 56)}, 0, 55, true}, {[]impl.Msg{msgOf(5, 0, 55)}, 0, 55, true}, {[]impl.Msg{msgOf(5, 0, 54)}, 0, 0, false}, {[]impl.Msg{msgOf(5, 0, 1)}, 0, 0, false},
		{[]impl.Msg{shaking(5, 0, 55, 1)}, 0, 0, false}, {[]impl.Msg{shaking(5, 0, 56, 1)}, 0, 55, true}, {[]impl.Msg{shaking(5, 0, 56, 2)}, 0, 110, true}, {[]impl.Msg{shaking(5, 0, 56, 3)}, 0, 165, true},
		{[]impl.Msg{shaking(5, 0, 60, 5)}, 0, 55, true}, {[]impl.Msg{shaking(5, 0, 60, 6)}, 0, 110, true}, {[]impl.Msg{shaking(5, 0, 60, 60)}, 0, 660, true},
		// One that goes ahead counts as often as it comes; one that does not counts once, by its cost alone.
		{[]impl.Msg{msgOf(1, 0, 200), msgOf(2, 0, 100)}, 0, 110, true}, {[]impl.Msg{msgOf(1, 0, 200), msgOf(2, 0, 100)}, 1, 165, true},
		{[]impl.Msg{msgOf(2, 0, 100), msgOf(1, 0, 200)}, 0, 165, true}, {[]impl.Msg{msgOf(1, 0, 110), msgOf(2, 0, 110)}, 1, 110, true}, {[]impl.Msg{msgOf(1, 0, 110), msgOf(2, 0, 110)}, 0, 110, true},
		{[]impl.Msg{msgOf(1, 0, 109), msgOf(2, 0, 110)}, 1, 0, false}, {[]impl.Msg{msgOf(1, 0, 109), msgOf(2, 0, 110)}, 0, 165, true}, {[]impl.Msg{msgOf(1, 0, 110), msgOf(2, 0, 1)}, 0, 110, true}, {[]impl.Msg{msgOf(1, 0, 110), msgOf(2, 0, 1)}, 1, 0, false},
		{[]impl.Msg{msgOf(1, 0, 55), msgOf(2, 0, 20000)}, 0, 0, false}, {[]impl.Msg{msgOf(1, 0, 55), msgOf(2, 0, 20000)}, 1, 0, false},
		// The Jitter of one that goes ahead counts, too; that of one that does not is of no matter.
		{[]impl.Msg{shaking(1, 0, 200, 90), msgOf(2, 0, 300)}, 1, 110, true}, {[]impl.Msg{shaking(1, 0, 200, 91), msgOf(2, 0, 300)}, 1, 165, true}, {[]impl.Msg{msgOf(1, 0, 200), shaking(2, 0, 200, 200)}, 0, 110, true},
		{[]impl.Msg{msgOf(1, 0, 200), msgOf(2, 0, 300)}, -1, -1, false}, {[]impl.Msg{msgOf(1, 0, 200), msgOf(2, 0, 300)}, 2, -1, false},
	} {
		checkBusy(t, c.table, c.i, c.want, c.ok)
	}
}

// Just at 100000 it is at rest; what would be at rest above it is not.
func TestBusyOfAtTheEnd(t *testing.T) {
	for _, c := range atTheEnd {
		last := int64(len(c.table)) - 1
		if busy, ok := busyUpTo(c.table, last, 101000); busy != c.busy || !ok {
			t.Fatalf("by eye %+v is busy for %d, %t", c.table, busy, ok)
		}
		if c.busy > 100000 {
			checkBusy(t, c.table, last, 0, false)
			checkCountOf(t, c.table, last, -1)
			checkBound(t, c.table, last, 0, false)
		} else {
			checkBusy(t, c.table, last, c.busy, true)
			checkCountOf(t, c.table, last, timesByEye(c.table[last], c.busy))
		}
		checkBounds(t, c.table)
	}
}

func TestCountOfByHand(t *testing.T) {
	for _, c := range []struct {
		table []impl.Msg
		i     int64
		want  int64
	}{
		{[]impl.Msg{msgOf(5, 0, 200)}, 0, 1}, {[]impl.Msg{msgOf(5, 0, 55)}, 0, 1}, {[]impl.Msg{msgOf(5, 0, 54)}, 0, -1}, {[]impl.Msg{msgOf(5, 0, 1)}, 0, -1}, {[]impl.Msg{msgOf(5, 8, 20000)}, 0, 1},
		// A Period that is less than the busy time, and one that is just as long.
		{[]impl.Msg{msgOf(1, 0, 200), msgOf(2, 0, 100)}, 1, 2}, {[]impl.Msg{msgOf(1, 0, 200), msgOf(2, 0, 110)}, 1, 1}, {[]impl.Msg{msgOf(1, 0, 200), msgOf(2, 0, 109)}, 1, 2}, {[]impl.Msg{msgOf(1, 0, 109), msgOf(2, 0, 200)}, 0, 2},
		{[]impl.Msg{msgOf(1, 0, 110), msgOf(2, 0, 200)}, 0, 1},
		// Jitter that makes one more, or just does not.
		{[]impl.Msg{shaking(5, 0, 60, 5)}, 0, 1}, {[]impl.Msg{shaking(5, 0, 60, 6)}, 0, 2}, {[]impl.Msg{shaking(5, 0, 60, 10)}, 0, 2}, {[]impl.Msg{shaking(5, 0, 60, 11)}, 0, 3}, {[]impl.Msg{shaking(5, 0, 60, 60)}, 0, 12},
		{[]impl.Msg{shaking(5, 0, 200, 145)}, 0, 1}, {[]impl.Msg{shaking(5, 0, 200, 146)}, 0, 2}, {[]impl.Msg{shaking(5, 0, 200, 200)}, 0, 2},
		{[]impl.Msg{msgOf(1, 0, 109), msgOf(2, 0, 110)}, 1, -1}, {[]impl.Msg{msgOf(1, 0, 109), msgOf(2, 0, 110)}, 0, 2},
		{[]impl.Msg{msgOf(1, 0, 200)}, -1, -1}, {[]impl.Msg{msgOf(1, 0, 200)}, 1, -1},
		// As many as there are in 100000 bits.
		{atTheEnd[0].table, 1, 500}, {atTheEnd[1].table, 1, 800}, {atTheEnd[5].table, 2, -1},
	} {
		checkCountOf(t, c.table, c.i, c.want)
	}
}

func TestWaitOfByHand(t *testing.T) {
	alone, long := []impl.Msg{msgOf(5, 0, 200)}, []impl.Msg{msgOf(5, 7, 1)}
	for _, c := range []struct {
		table   []impl.Msg
		i, q    int64
		want    int64
		ok      bool
		because string
	}{
		{alone, 0, -1, 0, false, "q is none"}, {alone, 0, 0, 0, true, "nobody else"}, {alone, 0, 1, 55, true, "itself"}, {alone, 0, 2, 110, true, "itself"}, {alone, 0, 100000, 0, false, "too much"}, {alone, 0, 100001, 0, false, "q is none"},
		{alone, -1, 0, -1, false, "no message"}, {alone, 1, 0, -1, false, "no message"}, {alone, 1, -1, -1, false, "no message goes ahead"},
		// All costs are multiples of 5: 99995 is the most that there may be, and 100000 the least that there may not.
		{alone, 0, 1818, 99990, true, "ahead of the end"}, {alone, 0, 1819, 0, false, "past the end"}, {long, 0, 799, 99875, true, "ahead of the end"}, {long, 0, 800, 0, false, "just 100000"},
		{[]impl.Msg{msgOf(1, 0, 200), msgOf(2, 6, 200)}, 0, 1816, 99995, true, "115 and 1816 times 55"}, {[]impl.Msg{msgOf(1, 0, 200), msgOf(2, 6, 200)}, 0, 1817, 0, false, "past the end"},
		{[]impl.Msg{msgOf(1, 0, 200), msgOf(2, 1, 200)}, 0, 1816, 99945, true, "ahead of the end"}, {[]impl.Msg{msgOf(1, 0, 200), msgOf(2, 1, 200)}, 0, 1817, 0, false, "just 100000, 65 and 1817 times 55"},
		{[]impl.Msg{msgOf(0, 4, 410), msgOf(1, 8, 310)}, 1, 569, 99995, true, "with 244 times 95"}, {[]impl.Msg{msgOf(0, 7, 390), msgOf(1, 2, 310)}, 1, 905, 0, false, "just 100000, with 257 times 125"},
		{[]impl.Msg{msgOf(0, 2, 300), shaking(1, 4, 190, 145)}, 1, 789, 0, false, "100005"},
		// Who is on the wire, and who goes ahead.
		{[]impl.Msg{msgOf(1, 0, 200), msgOf(2, 3, 300)}, 0, 0, 85, true, "the one on the wire"}, {[]impl.Msg{msgOf(1, 0, 200), msgOf(2, 3, 300)}, 1, 0, 55, true, "the one that goes ahead"}, {[]impl.Msg{msgOf(1, 0, 200), msgOf(2, 3, 300)}, 1, 1, 140, true, "both"},
		{[]impl.Msg{msgOf(2, 3, 300), msgOf(1, 0, 200)}, 0, 2, 280, true, "85 twice, 55 twice"}, {[]impl.Msg{msgOf(1, 0, 55), msgOf(2, 0, 300)}, 1, 0, 0, false, "never its turn"}, {[]impl.Msg{msgOf(1, 0, 54), msgOf(2, 0, 300)}, 0, 3, 220, true, "its own Period does not count"},
		// w and 1 just at a multiple of Period, one below and one above: at 55, and at 110.
		{[]impl.Msg{shaking(1, 0, 200, 143), msgOf(2, 0, 300)}, 1, 0, 55, true, "199"}, {[]impl.Msg{shaking(1, 0, 200, 144), msgOf(2, 0, 300)}, 1, 0, 55, true, "200"}, {[]impl.Msg{shaking(1, 0, 200, 145), msgOf(2, 0, 300)}, 1, 0, 110, true, "201"},
		{[]impl.Msg{msgOf(1, 0, 112), msgOf(2, 0, 300)}, 1, 1, 110, true, "one below"}, {[]impl.Msg{msgOf(1, 0, 111), msgOf(2, 0, 300)}, 1, 1, 110, true, "just at it"}, {[]impl.Msg{msgOf(1, 0, 110), msgOf(2, 0, 300)}, 1, 1, 165, true, "one above"},
		{[]impl.Msg{msgOf(1, 0, 111), msgOf(2, 0, 300), msgOf(3, 0, 300)}, 1, 0, 110, true, "just at it"}, {[]impl.Msg{msgOf(1, 0, 110), msgOf(2, 0, 300), msgOf(3, 0, 300)}, 1, 0, 165, true, "one above"},
		// Who goes ahead and is there at 0 is waited for: without the 1 nobody would be.
		{[]impl.Msg{msgOf(1, 8, 20000), msgOf(2, 0, 20000)}, 1, 0, 135, true, "at 0 it is there"},
	} {
		checkWait(t, c.table, c.i, c.q, c.want, c.ok)
		if wait, ok := waitByEye(c.table, c.i, c.q); wait != c.want || ok != c.ok {
			t.Errorf("by eye (%s) %+v, %d, %d waits %d, %t", c.because, c.table, c.i, c.q, wait, ok)
		}
	}
}

// Where one of these is multiplied by the cost, it comes round to what a right number would be.
func TestWaitOfFarNumbers(t *testing.T) {
	for bytes, cost := range costsByHand {
		tables := [][]impl.Msg{{msgOf(5, int64(bytes), 300)}, {msgOf(1, 0, 300), msgOf(5, int64(bytes), 300), msgOf(7, 8, 300)}}
		round := int64(math.MaxUint64/uint64(cost)) + 1
		for _, q := range append([]int64{round, round + 1, -round, 1 - round, 2*round - 1, math.MaxInt64 / cost, math.MaxInt64/cost + 1, -2, 100002}, farNumbers...) {
			for _, table := range tables {
				if q < 0 || q > 100000 {
					checkWait(t, table, int64(len(table))/2, q, 0, false)
				}
			}
		}
	}
}

// Each q, up to the end and past it.
func TestWaitOfEachQ(t *testing.T) {
	for _, table := range [][]impl.Msg{{msgOf(5, 0, 200)}, {msgOf(5, 8, 1)}, {msgOf(1, 0, 20000), msgOf(2, 3, 300), msgOf(3, 1, 1)}} {
		for i := range int64(len(table)) {
			for q := int64(-2); q < 2000; q++ {
				wait, ok := waitByEye(table, i, q)
				checkWait(t, table, i, q, wait, ok)
			}
		}
	}
}

// laterIsGreatest are tables of whose message i not the first one, or not it alone, waits for longest; of each q what
// the bound is the greatest of is written out.
var laterIsGreatest = []struct {
	table []impl.Msg
	i     int64
	terms []int64
}{
	{[]impl.Msg{shaking(0, 0, 120, 25), msgOf(1, 5, 210)}, 1, []int64{160, 165, 115, 120}},
	{[]impl.Msg{msgOf(0, 0, 180), msgOf(1, 0, 120), msgOf(2, 0, 270)}, 2, []int64{165, 115, 175}},
	{[]impl.Msg{shaking(0, 3, 130, 30), msgOf(1, 0, 180)}, 1, []int64{140, 100, 145, 105, 65}},
	{[]impl.Msg{shaking(0, 0, 340, 248), shaking(1, 0, 100, 2)}, 1, []int64{112, 122, 77}},
	{[]impl.Msg{shaking(0, 0, 150, 33), msgOf(1, 0, 220), msgOf(2, 0, 210)}, 2, []int64{165, 175}},
	{[]impl.Msg{shaking(0, 8, 660, 243), msgOf(1, 8, 400), msgOf(2, 0, 460), shaking(3, 8, 530, 342)}, 3, []int64{802, 732, 852, 457, 522}},
	{[]impl.Msg{shaking(0, 3, 280, 58), msgOf(1, 7, 230), shaking(2, 0, 520, 80)}, 2, []int64{345, 300, 380}},
	{[]impl.Msg{msgOf(2, 0, 270), msgOf(1, 0, 120), msgOf(0, 0, 180)}, 0, []int64{165, 115, 175}},
}

func TestBoundOfLaterOnes(t *testing.T) {
	for _, c := range laterIsGreatest {
		terms, ok := termsByEye(c.table, c.i)
		if !ok || !slices.Equal(terms, c.terms) || slices.Max(terms) == terms[0] {
			t.Fatalf("by eye of %+v, %d: %v, %t", c.table, c.i, terms, ok)
		}
		checkBound(t, c.table, c.i, slices.Max(c.terms), true)
		checkCountOf(t, c.table, c.i, int64(len(c.terms)))
		checkBounds(t, c.table)
	}
}

func TestBoundOfByHand(t *testing.T) {
	for _, c := range []struct {
		table []impl.Msg
		i     int64
		want  int64
		ok    bool
	}{
		{[]impl.Msg{msgOf(5, 0, 200)}, 0, 55, true}, {[]impl.Msg{msgOf(5, 8, 135)}, 0, 135, true}, {[]impl.Msg{msgOf(5, 8, 134)}, 0, 0, false}, {[]impl.Msg{msgOf(5, 0, 1)}, 0, 0, false},
		// Its own Jitter counts, in whatever it waits for.
		{[]impl.Msg{shaking(5, 0, 200, 1)}, 0, 56, true}, {[]impl.Msg{shaking(5, 0, 200, 145)}, 0, 200, true}, {[]impl.Msg{shaking(5, 0, 200, 200)}, 0, 255, true}, {[]impl.Msg{shaking(5, 0, 60, 60)}, 0, 115, true},
		{[]impl.Msg{msgOf(1, 0, 200), msgOf(2, 3, 300)}, 0, 140, true}, {[]impl.Msg{msgOf(1, 0, 200), msgOf(2, 3, 300)}, 1, 140, true}, {[]impl.Msg{shaking(1, 0, 200, 7), msgOf(2, 3, 300)}, 0, 147, true}, {[]impl.Msg{msgOf(1, 0, 200), shaking(2, 3, 300, 7)}, 0, 140, true},
		{[]impl.Msg{msgOf(1, 0, 110), msgOf(2, 0, 110)}, 0, 110, true}, {[]impl.Msg{msgOf(1, 0, 110), msgOf(2, 0, 110)}, 1, 110, true}, {[]impl.Msg{msgOf(1, 0, 109), msgOf(2, 0, 110)}, 0, 110, true}, {[]impl.Msg{msgOf(1, 0, 109), msgOf(2, 0, 110)}, 1, 0, false},
		{[]impl.Msg{msgOf(1, 0, 110), msgOf(2, 0, 1)}, 0, 110, true}, {[]impl.Msg{msgOf(1, 0, 110), msgOf(2, 0, 1)}, 1, 0, false},
		{[]impl.Msg{msgOf(1, 0, 200)}, -1, -1, false}, {[]impl.Msg{msgOf(1, 0, 200)}, 1, -1, false},
		{atTheEnd[0].table, 1, 445, true}, {atTheEnd[1].table, 1, 390, true}, {atTheEnd[5].table, 2, 0, false},
	} {
		checkBound(t, c.table, c.i, c.want, c.ok)
	}
}

// checkBoundParts fails where a bound is other than what the functions that it is made of tell: where CountOf is none
// there is none, and else there is one, which is at least what the first one waits for, so it is never 0.
func checkBoundParts(t *testing.T, table []impl.Msg, i int64) {
	t.Helper()
	bound, ok := impl.BoundOf(table, i)
	if count := impl.CountOf(table, i); count < 1 {
		if ok || bound != 0 || count != -1 {
			t.Fatalf("CountOf %+v, %d is %d, but the bound is %d, %t", table, i, count, bound, ok)
		}
		return
	}
	least := table[i].Jitter + impl.BlockOf(table, i) + impl.CostOf(table[i])
	if !ok || bound < least || bound < 55 {
		t.Fatalf("BoundOf %+v, %d: %d, %t, which is less than %d", table, i, bound, ok, least)
	}
	for q := range impl.CountOf(table, i) {
		if wait, ok := impl.WaitOf(table, i, q); !ok || table[i].Jitter+wait+impl.CostOf(table[i])-q*table[i].Period > bound {
			t.Fatalf("BoundOf %+v, %d: %d, but at %d it waits %d, %t", table, i, bound, q, wait, ok)
		}
	}
}

func TestAdmittedByHand(t *testing.T) {
	// Full just to the brim: of the last one there is a bound, just as long as its Period.
	brim := []impl.Msg{msgOf(1, 0, 165), msgOf(2, 0, 165), msgOf(3, 0, 165)}
	checkAdmitted(t, brim, true)
	// The last one alone is without a bound.
	over := slices.Clone(brim)
	over[2] = msgOf(3, 0, 160)
	checkBound(t, over, 0, 110, true)
	checkBound(t, over, 1, 165, true)
	checkBound(t, over, 2, 0, false)
	checkAdmitted(t, over, false)
	slices.Reverse(over)
	checkAdmitted(t, over, false)
	// A message alone, and its Deadline.
	for deadline := int64(1); deadline <= 200; deadline++ {
		checkAdmitted(t, []impl.Msg{withField(shaking(5, 0, 200, 40), 4, deadline)}, deadline >= 95)
	}
	checkAdmitted(t, []impl.Msg{msgOf(5, 0, 55)}, true)
	checkAdmitted(t, []impl.Msg{msgOf(5, 0, 54)}, false)
	checkAdmitted(t, []impl.Msg{msgOf(5, 0, 1)}, false)
	checkAdmitted(t, nil, false)
}

// Of each table that is admitted: each Deadline just at the bound, and one less.
func TestAdmittedDeadlines(t *testing.T) {
	d, admitted := dice(416), 0
	for range 400 {
		table := loadedTable(&d, 1+d.below(12), 10+d.below(40))
		if !impl.Admitted(table) {
			continue
		}
		admitted++
		for i := range table {
			bound, _ := impl.BoundOf(table, int64(i))
			table[i].Deadline = bound
		}
		checkAdmitted(t, table, true)
		for i := range table {
			table[i].Deadline--
			checkAdmitted(t, table, false)
			table[i].Deadline++
		}
		checkAdmitted(t, table, true)
	}
	if admitted < 60 {
		t.Errorf("only %d tables were admitted", admitted)
	}
}
