package tests

import (
	"math"
	"slices"
	"testing"

	"loop.example/g00753/impl"
)

// checkNotPlayed fails where one of the two ways plays it.
func checkNotPlayed(t *testing.T, table []impl.Msg, list []impl.Release, bits int64) {
	t.Helper()
	checkPlayed(t, table, list, bits, nil, -1)
}

// twoNodes are a message of node 0 and one of node 1, which gives way.
func twoNodes() []impl.Msg {
	return []impl.Msg{msgOf(5, 1, 400), onNode(msgOf(9, 2, 300), 1)}
}

func TestPlayedByHand(t *testing.T) {
	table := []impl.Msg{msgOf(0, 0, 200), onNode(shaking(2, 0, 300, 10), 1)}
	// The first one has 50 bits: they are the bits 0 to 49.
	first, second := readyAt(0, 0, 0), impl.Release{At: 14, Msg: 1, Arrived: 5}
	list := []impl.Release{first, second}
	begins := int64(53)
	ends := begins + sizeFor(table, 1, 0) - 1
	for _, c := range []struct {
		bits int64
		want []impl.Done
	}{
		{0, nil}, {1, nil}, {49, nil}, {50, []impl.Done{doneAt(first, 49)}}, {51, []impl.Done{doneAt(first, 49)}}, {ends, []impl.Done{doneAt(first, 49)}},
		{ends + 1, []impl.Done{doneAt(first, 49), doneAt(second, ends)}}, {5000, []impl.Done{doneAt(first, 49), doneAt(second, ends)}},
	} {
		checkPlayed(t, table, list, c.bits, c.want, 0)
	}
	// Nothing at all, and nothing of the one.
	checkPlayed(t, table, nil, 300, nil, 0)
	checkPlayed(t, table, list[:1], 300, []impl.Done{doneAt(first, 49)}, 0)
	checkPlayed(t, table, list[1:], 300, []impl.Done{doneAt(second, 14+ends-begins)}, 0)
}

func TestPlayedBits(t *testing.T) {
	table := twoNodes()
	size := sizeFor(table, 0, 7)
	for _, at := range []int64{5000 - size, 5000 - size + 1} {
		r := readyAt(at, 0, 7)
		want := []impl.Done{doneAt(r, 4999)}
		if at+size > 5000 {
			want = nil
		}
		checkPlayed(t, table, []impl.Release{r}, 5000, want, 0)
		checkPlayed(t, table, []impl.Release{r}, 4999, nil, 0)
		checkPlayed(t, table, []impl.Release{r}, 0, nil, 0)
		for _, bits := range besides(5000) {
			checkNotPlayed(t, table, []impl.Release{r}, bits)
			checkNotPlayed(t, table, nil, bits)
		}
	}
}

// A release that is not at a bit of the run is not put, and no code of it counts; one at the last bit is.
func TestPlayedOutside(t *testing.T) {
	table := twoNodes()
	first := readyAt(3, 0, 1)
	want := []impl.Done{doneAt(first, 3+sizeFor(table, 0, 1)-1)}
	for _, at := range append([]int64{-1, -2, 200, 201, 5000, 100000}, farNumbers...) {
		if at >= 0 && at < 200 {
			continue
		}
		other := readyAt(at, 0, 2)
		checkPlayed(t, table, []impl.Release{first, other}, 200, want, 0)
		checkPlayed(t, table, []impl.Release{other, first}, 200, want, 0)
		checkPlayed(t, table, []impl.Release{other, other, readyAt(at, 1, 2)}, 200, nil, 0)
		checkPlayed(t, table, []impl.Release{first, other}, 0, nil, 0)
	}
	checkPlayed(t, table, []impl.Release{first, readyAt(199, 1, 2), readyAt(199, 1, 3)}, 200, want, 1)
	checkPlayed(t, table, []impl.Release{readyAt(0, 1, 2), readyAt(0, 1, 3)}, 1, nil, 1)
	checkPlayed(t, table, []impl.Release{readyAt(0, 1, 2), readyAt(0, 1, 3)}, 0, nil, 0)
}

// Arrived is only told again, whatever it is.
func TestPlayedArrived(t *testing.T) {
	table := twoNodes()
	for _, arrived := range append([]int64{-1, 0, 1, 100000, 100001}, farNumbers...) {
		r := impl.Release{At: 10, Msg: 1, Seq: 100000, Arrived: arrived}
		checkPlayed(t, table, []impl.Release{r}, 300, []impl.Done{{Msg: 1, Seq: 100000, Arrived: arrived, At: 10 + sizeFor(table, 1, 100000) - 1}}, 0)
	}
}

func TestPlayedSizes(t *testing.T) {
	table := []impl.Msg{msgOf(5, 0, 60), onNode(msgOf(9, 8, 300), 3)}
	var list []impl.Release
	for i := range int64(402) {
		list = append(list, readyAt(i*12, i%5/4, i))
	}
	for _, w := range bothWays() {
		for _, size := range []int{399, 400} {
			done, notOk := playedByEye(w, table, list[:size], 5000)
			if len(done) < 60 || notOk < 200 {
				t.Fatalf("%d are sent, %d are not BxOk", len(done), notOk)
			}
			checkPlay(t, w, table, list[:size], 5000, done, notOk)
		}
	}
	checkNotPlayed(t, table, list[:401], 5000)
	checkNotPlayed(t, table, list, 5000)
	checkNotPlayed(t, table, list[:401], 0)
	// None of them at a bit of the run: it is how many there are that counts.
	away := slices.Repeat([]impl.Release{readyAt(-1, 0, 0)}, 401)
	checkPlayed(t, table, away[:400], 100, nil, 0)
	checkNotPlayed(t, table, away, 100)
	checkNotPlayed(t, table, make([]impl.Release, 65536), 100)
}

// A Msg that is none, or a Seq that is out of range, is enough, wherever it stands and whenever it is.
func TestPlayedWrongReleases(t *testing.T) {
	table := twoNodes()
	right := []impl.Release{readyAt(0, 0, 0), readyAt(1, 1, 100000), readyAt(2, 1, 0)}
	var wrong []impl.Release
	for _, at := range []int64{-1, 0, 1, 100, 101} {
		for _, n := range besides(1) {
			wrong = append(wrong, readyAt(at, n, 0))
		}
		for _, n := range besides(100000) {
			wrong = append(wrong, readyAt(at, 0, n), readyAt(at, 1, n))
		}
	}
	for _, r := range wrong {
		checkNotPlayed(t, table, []impl.Release{r}, 100)
		checkNotPlayed(t, table, []impl.Release{r}, 0)
		for place := range 4 {
			checkNotPlayed(t, table, slices.Insert(slices.Clone(right), place, r), 100)
		}
	}
	for _, seq := range []int64{0, 1, 255, 256, 99999, 100000} {
		r := readyAt(0, 0, seq)
		checkPlayed(t, table, []impl.Release{r}, 100, []impl.Done{doneAt(r, sizeFor(table, 0, seq)-1)}, 0)
	}
}

func TestPlayedWrongTables(t *testing.T) {
	for _, table := range wrongTables() {
		for _, bits := range []int64{-1, 0, 100, 5001} {
			checkNotPlayed(t, table, nil, bits)
			checkNotPlayed(t, table, []impl.Release{readyAt(0, 0, 0)}, bits)
		}
	}
}

// As many nodes as the greatest Node and 1, but two at least: one alone would have no answer on the bus.
func TestPlayedNodes(t *testing.T) {
	for node := range int64(6) {
		table := []impl.Msg{onNode(msgOf(7, 3, 500), node)}
		r, again := readyAt(5, 0, 3), readyAt(300, 0, 4)
		want := []impl.Done{doneAt(r, 5+sizeFor(table, 0, 3)-1), doneAt(again, 300+sizeFor(table, 0, 4)-1)}
		checkPlayed(t, table, []impl.Release{r, again}, 400, want, 0)
		// All of them, the greatest one not the last one of the table.
		for other := range int64(6) {
			table := []impl.Msg{onNode(msgOf(8, 3, 500), node), onNode(msgOf(7, 3, 500), other)}
			low, high := readyAt(9, 1, 3), readyAt(9, 0, 4)
			ends := 9 + sizeFor(table, 1, 3) - 1
			checkPlayed(t, table, []impl.Release{high, low}, 400, []impl.Done{doneAt(low, ends), doneAt(high, ends+3+sizeFor(table, 0, 4))}, 0)
		}
	}
}

// Two of one message at one bit: the second one is put over the first one, by the order of the list.
func TestPlayedOverAtOnce(t *testing.T) {
	table := twoNodes()
	for _, seqs := range [][]int64{{0, 1}, {1, 0}, {0, 0}, {0, 256}, {256, 0}, {3, 9, 1}, {0, 100000, 0, 5}} {
		var list []impl.Release
		for k, seq := range seqs {
			list = append(list, impl.Release{At: 20, Msg: 1, Seq: seq, Arrived: int64(17 - k)})
		}
		last := list[len(list)-1]
		want := []impl.Done{doneAt(last, 20+sizeFor(table, 1, last.Seq)-1)}
		checkPlayed(t, table, list, 150, want, int64(len(list))-1)
	}
}

// Without bytes the frames are alike, and so they are with seqs that are 256 apart: it is the release that tells.
func TestPlayedOverAlike(t *testing.T) {
	table := []impl.Msg{msgOf(5, 0, 400), onNode(msgOf(9, 2, 300), 1)}
	low, high := readyAt(0, 0, 0), readyAt(0, 1, 7)
	for _, seq := range []int64{7, 263, 7 + 256*390} {
		over := impl.Release{At: 30, Msg: 1, Seq: seq, Arrived: 12}
		// While the other one is said the node waits: the second one goes in the place of the first one.
		ends := sizeFor(table, 0, 0) - 1
		checkPlayed(t, table, []impl.Release{low, high, over}, 300, []impl.Done{doneAt(low, ends), doneAt(over, ends+3+sizeFor(table, 1, 7))}, 1)
	}
	for _, seq := range []int64{0, 1, 5} {
		over := impl.Release{At: 0, Msg: 0, Seq: seq, Arrived: 99}
		checkPlayed(t, table, []impl.Release{low, over}, 300, []impl.Done{doneAt(over, sizeFor(table, 0, 0)-1)}, 1)
	}
}

// The second one of a message comes at each bit of the first one and of the pause behind that. While the first one is
// said it is BxFull, and what is told is the first one; behind that it is sent by itself. Which of them stands first in
// the list matters only where both come at one bit.
func TestPlayedFullWhileSent(t *testing.T) {
	for _, table := range [][]impl.Msg{twoNodes(), {onNode(msgOf(2047, 0, 100), 1), msgOf(3, 1, 90)}, {onNode(msgOf(0, 8, 900), 4)}} {
		size := sizeFor(table, 0, 1)
		first := readyAt(10, 0, 1)
		for at := int64(11); at < 10+size+8; at++ {
			second := impl.Release{At: at, Msg: 0, Seq: 2, Arrived: at - 3}
			want, notOk := []impl.Done{doneAt(first, 10+size-1)}, int64(1)
			if at >= 10+size {
				begins := max(at, 10+size+3)
				want, notOk = append(want, doneAt(second, begins+sizeFor(table, 0, 2)-1)), 0
			}
			checkPlayed(t, table, []impl.Release{first, second}, 500, want, notOk)
			checkPlayed(t, table, []impl.Release{second, first}, 500, want, notOk)
		}
		second := readyAt(10, 0, 2)
		checkPlayed(t, table, []impl.Release{first, second}, 500, []impl.Done{doneAt(second, 10+sizeFor(table, 0, 2)-1)}, 1)
		checkPlayed(t, table, []impl.Release{second, first}, 500, []impl.Done{doneAt(first, 10+size-1)}, 1)
	}
}

// Put over, put over again, refused while it is sent, and put anew behind that: who was put last till then is told.
func TestPlayedOverAndFull(t *testing.T) {
	table := twoNodes()
	low := readyAt(0, 0, 0)
	ends := sizeFor(table, 0, 0) - 1
	one, two, three := readyAt(5, 1, 1), readyAt(20, 1, 2), readyAt(ends+2, 1, 3)
	begins := ends + 4
	refused, late := readyAt(begins+1, 1, 4), readyAt(begins+30, 1, 5)
	sent := begins + sizeFor(table, 1, 3) - 1
	next := readyAt(sent+1, 1, 6)
	list := []impl.Release{low, one, two, three, refused, late, next}
	want := []impl.Done{doneAt(low, ends), doneAt(three, sent), doneAt(next, sent+3+sizeFor(table, 1, 6))}
	checkPlayed(t, table, list, 600, want, 4)
	slices.Reverse(list)
	checkPlayed(t, table, list, 600, want, 4)
	checkPlayed(t, table, list, sent+1, want[:2], 4)
	checkPlayed(t, table, list, sent, want[:1], 4)
	checkPlayed(t, table, list, begins+2, want[:1], 3)
	checkPlayed(t, table, list, begins+1, want[:1], 2)
}

// Of one node, too, only the one that is on the wire is kept; another one of its box is put over.
func TestPlayedOverInOneBox(t *testing.T) {
	table := []impl.Msg{msgOf(5, 1, 400), msgOf(9, 2, 300)}
	for at := int64(0); at < 50; at++ {
		low, high, over := readyAt(0, 0, 1), readyAt(0, 1, 2), readyAt(at, 1, 3)
		ends := sizeFor(table, 0, 1) - 1
		want := []impl.Done{doneAt(low, ends), doneAt(over, ends+3+sizeFor(table, 1, 3))}
		checkPlayed(t, table, []impl.Release{low, high, over}, 300, want, 1)
		// The one of the greater Id began alone: the other one waits in the same box, ahead of it, and is put over.
		if at > 1 {
			high, low, over = readyAt(0, 1, 2), readyAt(1, 0, 1), readyAt(at, 0, 3)
			ends = sizeFor(table, 1, 2) - 1
			want = []impl.Done{doneAt(high, ends), doneAt(over, ends+3+sizeFor(table, 0, 3))}
			checkPlayed(t, table, []impl.Release{high, low, over}, 300, want, 1)
		}
	}
}

// Where a node is about to lose the contest that rank is refused on the bus, and put over at the server, as chapters 12
// and 14 tell; so the Done tells another Seq, but the same At where the frames are as long. Where both messages are of
// one node there is no contest, and so it is of each two nodes that they are two.
func TestPlayedOverWhoLoses(t *testing.T) {
	for node := range int64(6) {
		for loser := range int64(6) {
			table := []impl.Msg{onNode(msgOf(1, 0, 400), node), onNode(msgOf(1023, 0, 300), loser)}
			low, high, other := readyAt(0, 0, 0), readyAt(0, 1, 1), readyAt(2, 1, 2)
			ends := sizeFor(table, 0, 0) - 1
			first := doneAt(low, ends)
			then := ends + 3 + sizeFor(table, 1, 1)
			list := []impl.Release{low, high, other}
			checkPlay(t, bothWays()[0], table, list, 300, []impl.Done{first, doneAt(other, then)}, 1)
			if loser != node {
				checkPlay(t, bothWays()[1], table, list, 300, []impl.Done{first, doneAt(high, then)}, 1)
			} else {
				checkPlay(t, bothWays()[1], table, list, 300, []impl.Done{first, doneAt(other, then)}, 1)
			}
			// Once it has lost it is put over on the bus, too.
			list[2].At = 4
			checkPlayed(t, table, list, 300, []impl.Done{first, doneAt(list[2], then)}, 1)
		}
	}
}

// All messages of the fullest table in one box: that is the most that a box ever has here, so none is refused for want of
// room.
func TestPlayedFullestBox(t *testing.T) {
	for _, node := range []int64{0, 1, 5} {
		table := tableOf(upTo(30, 41)...)
		var list []impl.Release
		var want []impl.Done
		for i := range table {
			table[i].Node = node
			list = append(list, readyAt(3, int64(i), int64(i)+9))
		}
		begins := int64(3)
		for i, r := range list {
			ends := begins + sizeFor(table, int64(i), r.Seq) - 1
			want, begins = append(want, doneAt(r, ends)), ends+4
		}
		checkPlayed(t, table, list, 5000, want, 0)
		slices.Reverse(list)
		checkPlayed(t, table, list, 5000, want, 0)
		// All twelve a second time, at once: each of them is put over.
		again := slices.Clone(list)
		for i := range again {
			again[i].Arrived = -7
			want[len(want)-1-i].Arrived = -7
		}
		checkPlayed(t, table, append(list, again...), 5000, want, 12)
	}
}

// The list may be in whatever order of At; where two are at one At it is the order of the list that tells.
func TestPlayedOrders(t *testing.T) {
	table := twoNodes()
	list := []impl.Release{readyAt(0, 0, 0), readyAt(90, 1, 1), readyAt(180, 0, 2), readyAt(270, 1, 3)}
	var want []impl.Done
	for _, r := range list {
		want = append(want, doneAt(r, r.At+sizeFor(table, r.Msg, r.Seq)-1))
	}
	eachOrder([]int{0, 1, 2, 3}, 4, func(order []int) {
		var mixed []impl.Release
		for _, place := range order {
			mixed = append(mixed, list[place])
		}
		checkPlayed(t, table, mixed, 400, want, 0)
	})
	// The Dones are in the order in which they were sent, not in that of the table or of the list.
	both := []impl.Release{readyAt(0, 1, 0), readyAt(1, 0, 0)}
	ends := sizeFor(table, 1, 0) - 1
	checkPlayed(t, table, both, 300, []impl.Done{doneAt(both[0], ends), doneAt(both[1], ends+3+sizeFor(table, 0, 0))}, 0)
}

// More frames than a Fifo holds: on the bus the others hear them all the same.
func TestPlayedLong(t *testing.T) {
	for _, node := range []int64{0, 3} {
		table := []impl.Msg{onNode(msgOf(5, 0, 58), node)}
		list := impl.ReleasesOf(table, nil, nil, 4900)
		var want []impl.Done
		for _, r := range list {
			want = append(want, doneAt(r, r.At+46))
		}
		if len(want) != 85 {
			t.Fatalf("%d releases", len(want))
		}
		checkPlayed(t, table, list, 5000, want, 0)
	}
}

// Tables and lists of all kinds, by eye: many are put over, refused, or not in the run.
func TestPlayedMany(t *testing.T) {
	d := dice(171)
	sent, notOks, refused := 0, int64(0), 0
	for round := range 120 {
		table := loadedTable(&d, 1+round%12, 50)
		for i := range table {
			table[i].Node = int64(d.below([]int{1, 2, 6}[round%3]))
		}
		bits := int64(d.below(900))
		var list []impl.Release
		for range d.below(60) {
			list = append(list, impl.Release{At: int64(d.below(int(bits)+20)) - 10, Msg: int64(d.below(len(table))), Seq: int64(d.below(100001)), Arrived: int64(d.below(9000)) - 3000})
		}
		if d.below(12) == 0 {
			list = append(list, readyAt(5, int64(d.below(16))-2, []int64{-1, 0, 100000, 100001}[d.below(4)]))
		}
		for _, w := range bothWays() {
			done, notOk := playedByEye(w, table, list, bits)
			checkPlay(t, w, table, list, bits, done, notOk)
			if sent += len(done); notOk < 0 {
				refused++
			} else {
				notOks += notOk
			}
		}
	}
	if sent < 700 || notOks < 500 || refused < 5 {
		t.Errorf("%d were sent, %d codes were not BxOk, %d lists were refused", sent, notOks, refused)
	}
}

// At, and 1, less Arrived, just the bound is in time, and one more is not; the order is that of the list.
func TestLateInByHand(t *testing.T) {
	table := []impl.Msg{msgOf(0, 0, 200), onNode(shaking(2, 0, 300, 10), 1)}
	checkBound(t, table, 0, 110, true)
	checkBound(t, table, 1, 120, true)
	for _, c := range []struct {
		d    impl.Done
		late bool
	}{
		{impl.Done{Msg: 0, At: 108}, false}, {impl.Done{Msg: 0, At: 109}, false}, {impl.Done{Msg: 0, At: 110}, true}, {impl.Done{Msg: 0, At: 111}, true},
		{impl.Done{Msg: 1, At: 119}, false}, {impl.Done{Msg: 1, At: 120}, true},
		{impl.Done{Msg: 0, Arrived: 10, At: 119}, false}, {impl.Done{Msg: 0, Arrived: 10, At: 120}, true},
		{impl.Done{Msg: 1, Arrived: 10, At: 129}, false}, {impl.Done{Msg: 1, Arrived: 10, At: 130}, true},
		{impl.Done{Msg: 1, Arrived: -10, At: 109}, false}, {impl.Done{Msg: 1, Arrived: -10, At: 110}, true},
		{impl.Done{Msg: 0, Arrived: 500, At: 3}, false}, {impl.Done{Msg: 0, At: -1000}, false}, {impl.Done{Msg: 0, Arrived: -1000, At: -890}, true}, {impl.Done{Msg: 0, Arrived: -1000, At: -891}, false},
		{impl.Done{Msg: -1, At: 1}, true}, {impl.Done{Msg: 2, At: 1}, true}, {impl.Done{Msg: 2, Arrived: 900, At: 1}, true}, {impl.Done{Msg: 12, At: 1}, true},
		// The Seq does not matter.
		{impl.Done{Msg: 0, Seq: -1, At: 109}, false}, {impl.Done{Msg: 0, Seq: 100001, At: 109}, false}, {impl.Done{Msg: 0, Seq: -1, At: 110}, true}, {impl.Done{Msg: 0, Seq: 100001, At: 110}, true},
	} {
		want := []impl.Done{c.d}
		if !c.late {
			want = nil
		}
		checkLate(t, table, []impl.Done{c.d}, want)
	}
	checkLate(t, table, nil, nil)
	checkLate(t, table, []impl.Done{}, nil)
	mixed := []impl.Done{{Msg: 1, At: 500}, {Msg: 0, At: 109}, {Msg: 0, At: 300}, {Msg: 7, At: 2}, {Msg: 1, At: 119}, {Msg: 0, At: 110}, {Msg: 1, At: 120, Seq: 3}, {Msg: 0, At: 300}}
	late := []impl.Done{mixed[0], mixed[2], mixed[3], mixed[5], mixed[6], mixed[7]}
	checkLate(t, table, mixed, late)
	slices.Reverse(mixed)
	slices.Reverse(late)
	checkLate(t, table, mixed, late)
}

// Of a message that has no bound each one is late, however early it is; the others of its table may have one.
func TestLateInWithoutBound(t *testing.T) {
	never := []impl.Msg{msgOf(5, 0, 1)}
	checkBound(t, never, 0, 0, false)
	part := []impl.Msg{msgOf(9, 8, 130), msgOf(2, 0, 110), msgOf(1, 0, 120)}
	checkBound(t, part, 0, 0, false)
	checkBound(t, part, 2, 190, true)
	for _, d := range []impl.Done{{}, {At: 1}, {At: -1}, {Arrived: 100000}, {At: math.MinInt64}, {Arrived: math.MaxInt64}, {At: math.MinInt64, Arrived: math.MaxInt64}, {At: math.MaxInt64, Arrived: math.MinInt64}} {
		checkLate(t, never, []impl.Done{d}, []impl.Done{d})
		checkLate(t, part, []impl.Done{d, {Msg: 2, At: 189}, {Msg: 2, At: 190}}, []impl.Done{d, {Msg: 2, At: 190}})
	}
}

// Where At and Arrived are as far apart as numbers can be nothing comes round.
func TestLateInFar(t *testing.T) {
	table := []impl.Msg{msgOf(0, 0, 200), onNode(shaking(2, 0, 300, 10), 1)}
	far := slices.Concat(farNumbers, []int64{-1, 0, 1, 109, 110, 111, math.MaxInt64 - 111, math.MaxInt64 - 110, math.MaxInt64 - 109, math.MaxInt64 - 108, math.MinInt64 + 108, math.MinInt64 + 109, math.MinInt64 + 110, math.MinInt64 + 111})
	var list, late []impl.Done
	for _, at := range far {
		for _, arrived := range far {
			d := impl.Done{Msg: 0, Arrived: arrived, At: at}
			if list = append(list, d); waitedMore(d, 110) {
				late = append(late, d)
			}
		}
	}
	checkLate(t, table, list, late)
	for _, c := range []struct {
		arrived, at int64
		late        bool
	}{
		{math.MaxInt64, math.MaxInt64, false}, {math.MaxInt64 - 109, math.MaxInt64, false}, {math.MaxInt64 - 110, math.MaxInt64, true}, {math.MinInt64, math.MaxInt64, true},
		{math.MaxInt64, math.MinInt64, false}, {math.MinInt64, math.MinInt64, false}, {math.MinInt64, math.MinInt64 + 109, false}, {math.MinInt64, math.MinInt64 + 110, true},
		{0, math.MaxInt64, true}, {-1, math.MaxInt64, true}, {1, math.MinInt64, false}, {math.MinInt64, 0, true}, {math.MaxInt64, 0, false},
	} {
		d := impl.Done{Arrived: c.arrived, At: c.at}
		if told := len(impl.LateIn(table, []impl.Done{d})) > 0; told != c.late {
			t.Errorf("%+v: %t", d, told)
		}
	}
	for _, n := range besides(1) {
		d := impl.Done{Msg: n, Arrived: math.MaxInt64, At: math.MinInt64}
		checkLate(t, table, []impl.Done{d}, []impl.Done{d})
	}
}

func TestLateInWrongTables(t *testing.T) {
	for _, table := range wrongTables() {
		checkLate(t, table, nil, nil)
		checkLate(t, table, []impl.Done{{}, {Msg: -1}, {Msg: 7, At: 1}, {At: math.MaxInt64}}, nil)
	}
}

// Tables of all loads, and Dones about their bounds.
func TestLateInMany(t *testing.T) {
	d := dice(172)
	in, out := 0, 0
	for round := range 60 {
		table := loadedTable(&d, 1+round%12, []int{20, 60, 90, 105}[round%4])
		var list []impl.Done
		for range 40 {
			i := int64(d.below(len(table)+2)) - 1
			bound, _ := impl.BoundOf(table, i)
			arrived := int64(d.below(5000))
			list = append(list, impl.Done{Msg: i, Seq: int64(d.below(9)), Arrived: arrived, At: arrived + bound - 3 + int64(d.below(5))})
		}
		want := lateByEye(table, list)
		checkLate(t, table, list, want)
		out += len(want)
		in += len(list) - len(want)
	}
	if in < 500 || out < 500 {
		t.Errorf("%d in time, %d late", in, out)
	}
}
