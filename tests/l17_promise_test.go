package tests

import (
	"slices"
	"testing"

	"loop.example/g00753/impl"
)

// admittedTable is an admitted table of that size, of whatever load.
func admittedTable(d *dice, size int) []impl.Msg {
	for {
		table := loadedTable(d, size, 5+d.below(85))
		for i := range table {
			if d.below(3) > 0 {
				table[i].Jitter /= int64(2 + d.below(12))
			}
			if d.below(4) > 0 {
				table[i].Deadline = table[i].Period
			}
			table[i].Node %= int64(1 + d.below(6))
		}
		if impl.Admitted(table) {
			return table
		}
	}
}

// someTimes are offsets or delays of whatever kind: none, few, more than there are messages, little and very much.
func someTimes(d *dice) []int64 {
	var list []int64
	most := []int{2, 60, 1000, 100001}[d.below(4)]
	for range d.below(20) {
		list = append(list, int64(d.below(most)))
	}
	return list
}

// nearest is of how many hundredths of its bound the one that waited for longest has waited.
func nearest(table []impl.Msg, done []impl.Done) int64 {
	most := int64(0)
	for _, d := range done {
		bound, _ := impl.BoundOf(table, d.Msg)
		most = max(most, 100*(d.At+1-d.Arrived)/bound)
	}
	return most
}

// checkInTime is promise 17 of releases of an admitted table: both ways tell the same, no code is other than BxOk, each
// release is sent once, all within their bounds, which are at most their Deadlines. In so many bits all are sent.
func checkInTime(t *testing.T, table []impl.Msg, list []impl.Release, bits int64) []impl.Done {
	t.Helper()
	done, notOk := impl.PlayedOn(table, list, bits)
	others, notOkThere := impl.PlayedBus(table, list, bits)
	if notOk != 0 || notOkThere != 0 || !slices.Equal(done, others) {
		t.Fatalf("%+v, %+v: %d and %d are not BxOk,\n%+v, and on the bus\n%+v", table, list, notOk, notOkThere, done, others)
	}
	if late := impl.LateIn(table, done); len(late) > 0 {
		t.Fatalf("of %+v, %+v these are late: %+v", table, list, late)
	}
	waiting := map[impl.Release]bool{}
	for _, r := range list {
		waiting[impl.Release{Msg: r.Msg, Seq: r.Seq, Arrived: r.Arrived}] = true
	}
	for _, d := range done {
		r := impl.Release{Msg: d.Msg, Seq: d.Seq, Arrived: d.Arrived}
		if !waiting[r] || d.At+1-d.Arrived > table[d.Msg].Deadline {
			t.Fatalf("%+v of %+v, %+v is late, or was not released, or is sent twice", d, table, list)
		}
		delete(waiting, r)
	}
	if len(waiting) > 0 {
		t.Fatalf("of %+v, %+v these are never sent: %+v", table, list, waiting)
	}
	return done
}

// greatestBound is for how long one of an admitted table waits at most.
func greatestBound(table []impl.Msg) int64 {
	greatest := int64(0)
	for i := range table {
		bound, _ := impl.BoundOf(table, int64(i))
		greatest = max(greatest, bound)
	}
	return greatest
}

// checkAllInTime is checkInTime of what arrives up to until, or for as long as all of that is sent within 5000 bits.
func checkAllInTime(t *testing.T, table []impl.Msg, offsets, delays []int64, until int64) []impl.Done {
	t.Helper()
	greatest := greatestBound(table)
	until = max(0, min(until, 5000-greatest))
	return checkInTime(t, table, impl.ReleasesOf(table, offsets, delays, until), min(5000, until+greatest))
}

// Promise 17: admitted tables of each size, with offsets and delays of whatever kind, for as long as a run may be.
func TestPromise17(t *testing.T) {
	d := dice(17)
	sent, near := 0, 0
	for round := range 180 {
		table := admittedTable(&d, 1+round%12)
		done := checkAllInTime(t, table, someTimes(&d), someTimes(&d), 5000)
		if sent += len(done); nearest(table, done) > 70 {
			near++
		}
	}
	if sent < 2000 || near < 30 {
		t.Errorf("only %d were sent, and in %d runs one waited for more than 70 hundredths of its bound", sent, near)
	}
}

// worstFor lets the longest one that may block the message begin one bit ahead of it and of all that go ahead of it;
// those come as late as they can once, so that they come again as soon as they can.
func worstFor(table []impl.Msg, i int64) (offsets, delays []int64) {
	longest, start := i, int64(0)
	for k, m := range table {
		if m.Id > table[i].Id && (longest == i || m.Bytes > table[longest].Bytes) {
			longest = int64(k)
		}
		start = max(start, m.Jitter)
	}
	for k, m := range table {
		// All are there at start, though they arrived as much earlier as their Jitter is.
		offsets, delays = append(offsets, start-m.Jitter), append(delays, m.Jitter)
		if int64(k) == longest && longest != i {
			offsets[k] = max(0, start-1-m.Jitter)
		}
	}
	return offsets, delays
}

// Promise 17, where a message waits for as long as it can: all that go ahead of it come at once, behind the longest one
// that does not. Each message of the table in turn.
func TestPromise17AtOnce(t *testing.T) {
	d := dice(1717)
	near := 0
	for round := range 36 {
		table := admittedTable(&d, 1+round%12)
		for i := range int64(len(table)) {
			offsets, delays := worstFor(table, i)
			if nearest(table, checkAllInTime(t, table, offsets, delays, 1500)) > 80 {
				near++
			}
		}
	}
	if near < 100 {
		t.Errorf("in only %d runs one waited for more than 80 hundredths of its bound", near)
	}
}

// Promise 17 of tables by hand: alone on the wire as often as it can come, two that fill the wire, all twelve.
func TestPromise17ByHand(t *testing.T) {
	twelve := tableOf(upTo(0, 11)...)
	for i := range twelve {
		twelve[i] = onNode(msgOf(int64(11-i), int64(i%9), 1600), int64(i%6))
	}
	for _, table := range [][]impl.Msg{
		{msgOf(5, 0, 55)}, {msgOf(0, 8, 135)}, {onNode(msgOf(2047, 4, 95), 5)},
		{msgOf(5, 0, 110), onNode(msgOf(9, 0, 110), 1)}, {onNode(msgOf(9, 8, 300), 1), onNode(msgOf(5, 0, 190), 1)},
		{shaking(5, 0, 200, 90), onNode(shaking(9, 0, 300, 25), 1)}, twelve,
	} {
		if !impl.Admitted(table) || !admittedByEye(table) {
			t.Fatalf("%+v is not admitted", table)
		}
		for _, offsets := range [][]int64{nil, {0, 1}, {1, 0}, {54, 3, 100000}, upTo(1, 12), {17, 17, 17}} {
			for _, delays := range [][]int64{nil, {0}, {90}, {90, 0}, {0, 25, 90}, {100000, 1, 2, 3, 4}} {
				checkAllInTime(t, table, offsets, delays, 900)
			}
		}
		if done := checkAllInTime(t, table, []int64{3}, []int64{90, 0}, 5000); len(done) < 20 {
			t.Fatalf("of %+v only %d are sent", table, len(done))
		}
	}
}

// A run that ends early leaves out what is not sent by then, and nothing else; of that none is late.
func TestPromise17Early(t *testing.T) {
	d := dice(1718)
	for round := range 48 {
		table := admittedTable(&d, 1+round%12)
		list := impl.ReleasesOf(table, someTimes(&d), someTimes(&d), 1500)
		all, _ := impl.PlayedOn(table, list, 5000)
		for _, bits := range []int64{0, 1, 300, 1000, 1500} {
			want := slices.DeleteFunc(slices.Clone(all), func(done impl.Done) bool { return done.At >= bits })
			checkPlayed(t, table, list, bits, want, 0)
			checkLate(t, table, want, nil)
		}
	}
}

// Who is not admitted may be late, and LateIn tells so.
func TestNotAdmittedIsLate(t *testing.T) {
	table := []impl.Msg{msgOf(5, 0, 60), onNode(msgOf(9, 8, 500), 1), onNode(msgOf(3, 8, 300), 2)}
	if impl.Admitted(table) {
		t.Fatalf("%+v is admitted", table)
	}
	list := impl.ReleasesOf(table, []int64{1, 0, 0}, nil, 4000)
	done, notOk := impl.PlayedOn(table, list, 5000)
	late := impl.LateIn(table, done)
	checkLate(t, table, done, late)
	if notOk == 0 || len(late) == 0 || len(late) == len(done) {
		t.Errorf("%d are not BxOk, %d of %d are late", notOk, len(late), len(done))
	}
}

// Promise 20, for this layer: every function answers at every argument and none panics.
func TestRunsAnswerAtAll(t *testing.T) {
	numbers := append([]int64{-1, 0, 1, 2, 11, 12, 255, 256, 4999, 5000, 5001, 99999, 100000, 100001}, farNumbers...)
	heavy := tableOf(upTo(0, 11)...)
	for i := range heavy {
		heavy[i] = shaking(int64(i), 8, 1, 1)
	}
	tables := append(wrongTables(), fullTable(), heavy, make([]impl.Msg, 100000), twoNodes(), []impl.Msg{shaking(2047, 8, 20000, 20000)})
	d := dice(1720)
	number := func() int64 { return numbers[d.below(len(numbers))] }
	for _, table := range tables {
		var list []impl.Release
		var done []impl.Done
		for range d.below(40) {
			list = append(list, impl.Release{At: number(), Msg: int64(d.below(13)), Seq: int64(d.below(100001)), Arrived: number()})
			done = append(done, impl.Done{Msg: number(), Seq: number(), Arrived: number(), At: number()})
		}
		mustAnswer(t, func() {
			for _, n := range numbers {
				impl.FrameFor(table, n, n)
				impl.FrameFor(table, 0, n)
				impl.FrameFor(table, n, 0)
				impl.ReleasesOf(table, []int64{n}, nil, 10)
				impl.ReleasesOf(table, nil, []int64{n}, 10)
				impl.ReleasesOf(table, []int64{0, 9}, []int64{7, 9, 11}, n)
				impl.PlayedOn(table, list, n)
				impl.PlayedOn(table, []impl.Release{{At: n, Msg: n, Seq: n, Arrived: n}}, 3)
				impl.PlayedBus(table, []impl.Release{{At: n, Msg: n, Seq: n, Arrived: n}}, 3)
				impl.PlayedBus(table, []impl.Release{{At: 1, Msg: 0, Seq: n, Arrived: n}}, 60)
				impl.LateIn(table, []impl.Done{{Msg: n, Seq: n, Arrived: n, At: -n}, {At: n}, {Arrived: n}})
			}
			impl.PlayedBus(table, list, 300)
			impl.PlayedOn(table, make([]impl.Release, 100000), 300)
			impl.PlayedBus(table, make([]impl.Release, 100000), 300)
			impl.ReleasesOf(table, make([]int64, 100000), make([]int64, 100000), 5000)
			impl.LateIn(table, done)
			impl.LateIn(table, make([]impl.Done, 100000))
		}, len(table))
	}
}

// Promise 20, for this layer: an answer is new memory also where arguments share memory with one another.
func TestRunsAreNew(t *testing.T) {
	table := []impl.Msg{msgOf(5, 8, 400), onNode(shaking(9, 3, 300, 30), 1)}
	times := []int64{30, 7, 20, 100}
	for range 3 {
		list := impl.ReleasesOf(table, times[:3], times[1:], 900)
		if !slices.Equal(list, releasesByEye(table, times[:3], times[1:], 900)) || !slices.Equal(times, []int64{30, 7, 20, 100}) {
			t.Fatalf("%+v, %v", list, times)
		}
		slices.Reverse(list)
		kept := slices.Clone(list)
		done, _ := impl.PlayedOn(table, list, 1500)
		again, _ := impl.PlayedBus(table, list, 1500)
		if !slices.Equal(list, kept) || len(done) != 6 || !slices.Equal(done, again) {
			t.Fatalf("%+v, %+v, %+v", list, done, again)
		}
		done[0].At, done[5].At = 9000, 9000
		late := impl.LateIn(table, done)
		if len(late) != 2 || late[0] != done[0] || late[1] != done[5] {
			t.Fatalf("%+v of %+v", late, done)
		}
		late[0], list[0] = impl.Done{At: -9}, impl.Release{At: -9}
		if done[0].At != 9000 || again[0].At == 9000 || impl.LateIn(table, done)[0] != done[0] {
			t.Fatalf("%+v, %+v", done, again)
		}
		f, g := impl.FrameFor(table, 0, 3), impl.FrameFor(table, 0, 3)
		f.Data[0] = 77
		if !sameFrames(g, impl.FrameFor(table, 0, 3)) || g.Data[0] != 3 {
			t.Fatalf("%+v", g)
		}
	}
}

// Promise 20, for this layer: nothing of one call is left to the next one; a change of an argument is told.
func TestRunsKeepNothing(t *testing.T) {
	table := []impl.Msg{msgOf(5, 1, 400), onNode(shaking(9, 3, 300, 30), 1)}
	times := []int64{7, 20}
	list := []impl.Release{readyAt(5, 1, 2), readyAt(5, 1, 3), readyAt(9, 0, 7)}
	for range 3 {
		for _, change := range []func(){
			func() {}, func() { table[1].Id = 3 }, func() { table[1].Node = 5 }, func() { table[0].Bytes = 8 }, func() { table[1].Jitter = 0 }, func() { table[0].Period = 100 },
			func() { times[1] = 100000 }, func() { times[0] = -1 }, func() { list[1].At = 30 }, func() { list[2].Seq = 100001 }, func() { table[1].Id = 5 },
		} {
			table[0], table[1] = msgOf(5, 1, 400), onNode(shaking(9, 3, 300, 30), 1)
			times[0], times[1] = 7, 20
			list[0], list[1], list[2] = readyAt(5, 1, 2), readyAt(5, 1, 3), readyAt(9, 0, 7)
			change()
			checkFrameFor(t, table, 0, 300, frameForByEye(table, 0, 300))
			checkReleasesByEye(t, table, times, times, 800)
			for _, w := range bothWays() {
				done, notOk := playedByEye(w, table, list, 300)
				checkPlay(t, w, table, list, 300, done, notOk)
				checkLate(t, table, done, lateByEye(table, done))
			}
		}
	}
}
