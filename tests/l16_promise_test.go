package tests

import (
	"slices"
	"testing"

	"loop.example/g00753/impl"
)

// loadedTable is a right table that takes about so many of a hundred bits; the Ids are in no order.
func loadedTable(d *dice, size, load int) []impl.Msg {
	var table []impl.Msg
	for len(table) < size {
		m := impl.Msg{Id: int64(d.below(2048)), Bytes: int64(d.below(9)), Node: int64(d.below(6))}
		if slices.ContainsFunc(table, func(other impl.Msg) bool { return other.Id == m.Id }) {
			continue
		}
		m.Period = costsByHand[m.Bytes] * int64(size*(50+d.below(100))) / int64(load)
		m.Period = max(1, min(20000, m.Period))
		if d.below(2) > 0 {
			m.Jitter = int64(d.below(int(m.Period) + 1))
		}
		m.Deadline = m.Period - int64(d.below(2)*d.below(int(m.Period)))
		table = append(table, m)
	}
	return table
}

// Tables of each size and load: all that the chapter tells is what is told by eye.
func TestBoundsOfManyTables(t *testing.T) {
	d := dice(160)
	bounds, none, admitted, later := 0, 0, 0, 0
	for round := range 260 {
		table := loadedTable(&d, 1+round%12, []int{10, 20, 30, 60, 80, 90, 95, 100, 110}[d.below(9)])
		checkBounds(t, table)
		for i := range int64(len(table)) {
			checkBoundParts(t, table, i)
			if terms, ok := termsByEye(table, i); !ok {
				none++
			} else if bounds++; slices.Max(terms) > terms[0] {
				later++
			}
		}
		if impl.Admitted(table) {
			admitted++
		}
	}
	if bounds < 500 || none < 100 || admitted < 20 || later < 10 {
		t.Errorf("only %d bounds, %d of them of a later one, %d without, %d tables admitted", bounds, later, none, admitted)
	}
}

// Two messages, of few costs, Periods and Jitters, in both orders.
func TestBoundsOfSmallTables(t *testing.T) {
	var msgs []impl.Msg
	for _, bytes := range []int64{0, 1, 8} {
		for _, period := range []int64{1, 55, 110, 111, 121, 190, 200, 1000} {
			msgs = append(msgs, msgOf(5, bytes, period), shaking(5, bytes, period, period), shaking(5, bytes, period, period/2))
		}
	}
	for _, m := range msgs {
		checkBounds(t, []impl.Msg{m})
	}
	for i := range msgs {
		for k := i % 7; k < len(msgs); k += 7 {
			checkBounds(t, []impl.Msg{withField(msgs[k], 0, 1), msgs[i]})
			checkBounds(t, []impl.Msg{withField(msgs[k], 0, 9), msgs[i]})
		}
	}
}

// The order of the table does not matter, nor which Ids there are, but only which one is less; nor Deadline and Node.
func TestBoundsGoByRank(t *testing.T) {
	d := dice(161)
	for range 150 {
		table := loadedTable(&d, 2+d.below(11), 85)
		ids := make([]int64, 0, len(table))
		for _, m := range table {
			ids = append(ids, m.Id)
		}
		slices.Sort(ids)
		other := slices.Clone(table)
		for i := range other {
			place, _ := slices.BinarySearch(ids, other[i].Id)
			other[i].Id, other[i].Deadline, other[i].Node = int64(place), 1, 0
		}
		slices.Reverse(other)
		for i := range int64(len(table)) {
			k := int64(len(table)) - 1 - i
			bound, ok := impl.BoundOf(table, i)
			checkBound(t, other, k, bound, ok)
			busy, ok := impl.BusyOf(table, i)
			checkBusy(t, other, k, busy, ok)
			wait, ok := impl.WaitOf(table, i, 3)
			checkWait(t, other, k, 3, wait, ok)
			checkCountOf(t, other, k, impl.CountOf(table, i))
			checkBlock(t, other, k, impl.BlockOf(table, i))
		}
	}
}

// noLess is true where the one is there no more, or both are there and it is not less.
func noLess(n int64, ok bool, was int64, wasOk bool) bool {
	return !ok || wasOk && n >= was
}

// checkNoLess fails where one of the messages has a lesser bound in the table that has more, or a bound where it had
// none. In that table it is at moved. It tells how many bounds have become greater, and how many there are no more.
func checkNoLess(t *testing.T, table, more []impl.Msg, moved func(i int64) int64) (greater, gone int) {
	t.Helper()
	if codeByEye(table) != 0 || codeByEye(more) != 0 {
		t.Fatalf("%+v or %+v is not right", table, more)
	}
	for i := range int64(len(table)) {
		k := moved(i)
		was, wasOk := impl.BoundOf(table, i)
		bound, ok := impl.BoundOf(more, k)
		if !noLess(bound, ok, was, wasOk) {
			t.Fatalf("the bound of %d of %+v was %d, %t; of %+v it is %d, %t", i, table, was, wasOk, more, bound, ok)
		}
		busyWas, busyWasOk := impl.BusyOf(table, i)
		if busy, ok := impl.BusyOf(more, k); !noLess(busy, ok, busyWas, busyWasOk) {
			t.Fatalf("%d of %+v was busy for %d, %t; of %+v for %d, %t", i, table, busyWas, busyWasOk, more, busy, ok)
		}
		for _, q := range []int64{0, 1, 2, 30, 1000} {
			waitWas, waitWasOk := impl.WaitOf(table, i, q)
			if wait, ok := impl.WaitOf(more, k, q); !noLess(wait, ok, waitWas, waitWasOk) {
				t.Fatalf("%d of %+v waited %d, %t at %d; of %+v %d, %t", i, table, waitWas, waitWasOk, q, more, wait, ok)
			}
		}
		if impl.BlockOf(more, k) < impl.BlockOf(table, i) {
			t.Fatalf("%+v blocks %d less than %+v", more, i, table)
		}
		if ok && bound > was {
			greater++
		}
		if !ok && wasOk {
			gone++
		}
	}
	if impl.Admitted(more) && !impl.Admitted(table) {
		t.Fatalf("%+v is admitted, %+v is not", more, table)
	}
	return greater, gone
}

// checkOneMore puts the message into the table at each place.
func checkOneMore(t *testing.T, table []impl.Msg, m impl.Msg) (greater, gone int) {
	t.Helper()
	for place := range int64(len(table)) + 1 {
		more := slices.Insert(slices.Clone(table), int(place), m)
		g, n := checkNoLess(t, table, more, func(i int64) int64 {
			if i < place {
				return i
			}
			return i + 1
		})
		greater, gone = greater+g, gone+n
	}
	return greater, gone
}

// checkOneLonger makes each message longer, by each number of bytes.
func checkOneLonger(t *testing.T, table []impl.Msg) (greater, gone int) {
	t.Helper()
	for i := range table {
		for bytes := table[i].Bytes + 1; bytes <= 8; bytes++ {
			longer := slices.Clone(table)
			longer[i].Bytes = bytes
			g, n := checkNoLess(t, table, longer, func(i int64) int64 { return i })
			greater, gone = greater+g, gone+n
		}
	}
	return greater, gone
}

// Promise 16: with one message more no bound becomes less, and where there was none there is none.
func TestPromise16More(t *testing.T) {
	d := dice(16)
	greater, gone := 0, 0
	for round := range 400 {
		table := loadedTable(&d, 2+round%11, 50+d.below(70))
		last := len(table) - 1
		g, n := checkOneMore(t, table[:last], table[last])
		greater, gone = greater+g, gone+n
	}
	if greater < 4000 || gone < 400 {
		t.Errorf("only %d bounds became greater, and %d there are no more", greater, gone)
	}
}

// Promise 16: with one longer message no bound becomes less, and where there was none there is none.
func TestPromise16Longer(t *testing.T) {
	d := dice(1616)
	greater, gone := 0, 0
	for round := range 200 {
		g, n := checkOneLonger(t, loadedTable(&d, 1+round%12, 50+d.below(60)))
		greater, gone = greater+g, gone+n
	}
	if greater < 4000 || gone < 400 {
		t.Errorf("only %d bounds became greater, and %d there are no more", greater, gone)
	}
}

// Promise 16, where a limit is near: what is at rest just at 100000 is no more with one message more, or a longer one.
func TestPromise16AtTheEnd(t *testing.T) {
	tables := [][]impl.Msg{fullTable()[:11], {msgOf(5, 7, 125)}, {msgOf(5, 0, 55)}, {msgOf(5, 0, 1)}, {msgOf(5, 0, 110), msgOf(6, 0, 110)}}
	for _, c := range atTheEnd {
		tables = append(tables, c.table)
	}
	for _, c := range laterIsGreatest {
		tables = append(tables, c.table)
	}
	gone := 0
	for _, table := range tables {
		for _, m := range []impl.Msg{msgOf(4, 0, 20000), msgOf(2045, 8, 20000), msgOf(2045, 0, 1), shaking(4, 3, 500, 500), msgOf(4, 0, 1)} {
			_, n := checkOneMore(t, raised(table), m)
			gone += n
		}
		_, n := checkOneLonger(t, table)
		gone += n
	}
	if gone < 50 {
		t.Errorf("only %d bounds there are no more", gone)
	}
}

// raised gives the messages other Ids, from 10 on, in the same order of Ids.
func raised(table []impl.Msg) []impl.Msg {
	other := slices.Clone(table)
	for i := range other {
		other[i].Id = 10
		for _, m := range table {
			if m.Id < table[i].Id {
				other[i].Id += 10
			}
		}
	}
	return other
}

// Promise 20, for this layer: every function answers at every argument and none panics.
func TestBoundsAnswerAtAll(t *testing.T) {
	heavy := tableOf(upTo(0, 11)...)
	for i := range heavy {
		heavy[i] = shaking(int64(i), 8, 1, 1)
	}
	slow := tableOf(upTo(0, 11)...)
	for i := range slow {
		slow[i] = shaking(int64(2047-i), 8, 20000, 20000)
	}
	tables := append(wrongTables(), fullTable(), heavy, slow, make([]impl.Msg, 100000), atTheEnd[0].table)
	for shift := range 64 {
		for _, n := range []int64{1<<shift - 1, 1 << shift, -1 << shift} {
			for place := range msgFields {
				tables = append(tables, []impl.Msg{withField(msgOf(1, 1, 1), place, n), msgOf(3, 3, 300)})
			}
			for _, table := range [][]impl.Msg{fullTable(), heavy} {
				mustAnswer(t, func() {
					impl.DemandOf(table, []int64{0, n}, n)
					impl.DemandOf(table, []int64{0, 11}, n)
					impl.WaitOf(table, 5, n)
					impl.WaitOf(table, n, n)
				}, n)
			}
		}
	}
	numbers := append([]int64{-1, 0, 1, 11, 12}, farNumbers...)
	for _, table := range tables {
		mustAnswer(t, func() {
			for _, i := range numbers {
				impl.BlockOf(table, i)
				impl.BusyOf(table, i)
				impl.CountOf(table, i)
				impl.WaitOf(table, i, i)
				impl.BoundOf(table, i)
				impl.DemandOf(table, numbers, i)
			}
			impl.Admitted(table)
		}, len(table))
	}
}

// Promise 20, for this layer: nothing of one call is left to the next one; a change of the table is told.
func TestBoundsKeepNothing(t *testing.T) {
	table := []impl.Msg{msgOf(1, 0, 200), msgOf(2, 3, 300)}
	for range 3 {
		checkBound(t, table, 0, 140, true)
		table[1].Bytes = 0
		checkBound(t, table, 0, 110, true)
		checkBlock(t, table, 0, 55)
		checkDemand(t, table, []int64{1}, 1, 55)
		table[1].Id = 1
		checkNoMsg(t, table, 0)
		checkAdmitted(t, table, false)
		table[1] = msgOf(2, 3, 300)
		checkAdmitted(t, table, true)
		checkBounds(t, table)
	}
}
