package tests

import (
	"slices"
	"testing"

	"loop.example/g00753/impl"
)

// refusedByEye is true where there is no such message, or the table is not right.
func refusedByEye(table []impl.Msg, i int64) bool {
	return codeByEye(table) != 0 || i < 0 || i >= int64(len(table))
}

func blockByEye(table []impl.Msg, i int64) int64 {
	if refusedByEye(table, i) {
		return -1
	}
	costs := []int64{0}
	for _, m := range table {
		if m.Id > table[i].Id {
			costs = append(costs, costsByHand[m.Bytes])
		}
	}
	return slices.Max(costs)
}

// timesByEye is how often a message comes within t: each of its times that begins ahead of the end counts as a whole.
func timesByEye(m impl.Msg, t int64) int64 {
	times := (t + m.Jitter) / m.Period
	if (t+m.Jitter)%m.Period != 0 {
		times++
	}
	return times
}

// takenOfAll asks nothing: it is of right tables, and of messages and times that are there.
func takenOfAll(table []impl.Msg, list []int64, t int64) int64 {
	taken := int64(0)
	for _, place := range list {
		taken += timesByEye(table[place], t) * costsByHand[table[place].Bytes]
	}
	return taken
}

func demandByEye(table []impl.Msg, list []int64, t int64) int64 {
	for _, place := range list {
		if refusedByEye(table, place) {
			return -1
		}
	}
	if codeByEye(table) != 0 || t < 0 || t > 100000 {
		return -1
	}
	return takenOfAll(table, list, t)
}

// restByEye goes through the numbers one by one, and not from each one to what comes of it. As what comes is never less
// than what was, the first one that stays is where that ends, too.
func restByEye(from, most int64, after func(n int64) int64) (int64, bool) {
	for n := from; n <= most; n++ {
		if after(n) == n {
			return n, true
		}
	}
	return 0, false
}

// busyUpTo is where the busy time comes to rest, if that is at most this; the table is right.
func busyUpTo(table []impl.Msg, i, most int64) (int64, bool) {
	block, list := blockByEye(table, i), append(higherByEye(table, i), i)
	return restByEye(costsByHand[table[i].Bytes], most, func(n int64) int64 {
		return block + takenOfAll(table, list, n)
	})
}

func busyByEye(table []impl.Msg, i int64) (int64, bool) {
	if refusedByEye(table, i) {
		return -1, false
	}
	return busyUpTo(table, i, 100000)
}

func countByEye(table []impl.Msg, i int64) int64 {
	busy, ok := busyByEye(table, i)
	if !ok {
		return -1
	}
	return timesByEye(table[i], busy)
}

// waitUpTo is where the waiting comes to rest, if that is at most this; the table is right, q is in range.
func waitUpTo(table []impl.Msg, i, q, most int64) (int64, bool) {
	start, list := blockByEye(table, i)+q*costsByHand[table[i].Bytes], higherByEye(table, i)
	return restByEye(start, most, func(n int64) int64 {
		return start + takenOfAll(table, list, n+1)
	})
}

func waitByEye(table []impl.Msg, i, q int64) (int64, bool) {
	if refusedByEye(table, i) {
		return -1, false
	}
	if q < 0 || q > 100000 {
		return 0, false
	}
	return waitUpTo(table, i, q, 99999)
}

// termsByEye is what BoundOf holds against each other, of each q in order; false where one of these is not there.
func termsByEye(table []impl.Msg, i int64) ([]int64, bool) {
	var terms []int64
	count := countByEye(table, i)
	for q := range count {
		wait, ok := waitByEye(table, i, q)
		if !ok {
			return nil, false
		}
		terms = append(terms, table[i].Jitter+wait+costsByHand[table[i].Bytes]-q*table[i].Period)
	}
	return terms, count >= 0
}

func boundByEye(table []impl.Msg, i int64) (int64, bool) {
	if refusedByEye(table, i) {
		return -1, false
	}
	terms, ok := termsByEye(table, i)
	if !ok {
		return 0, false
	}
	return slices.Max(append(terms, 0)), true
}

func admittedByEye(table []impl.Msg) bool {
	late := 0
	for i, m := range table {
		if bound, ok := boundByEye(table, int64(i)); !ok || bound > m.Deadline {
			late++
		}
	}
	return codeByEye(table) == 0 && late == 0
}

// listWithSpare is the list with spare room behind it, and all of it.
func listWithSpare(list []int64) (given []int64, all []int64) {
	all = slices.Concat(list, []int64{0, -1, 1, 77, -7})
	return all[:len(list)], all
}

func checkBlock(t *testing.T, table []impl.Msg, i, want int64) {
	t.Helper()
	if block := impl.BlockOf(table, i); block != want {
		t.Fatalf("BlockOf %+v, %d: %d, not %d", table, i, block, want)
	}
}

// checkDemand fails where DemandOf answers something else, too, where it writes into the list or the table, or behind
// them.
func checkDemand(t *testing.T, table []impl.Msg, list []int64, at, want int64) {
	t.Helper()
	given, all := tableWithRoom(table)
	places, allPlaces := listWithSpare(list)
	before, placesBefore := slices.Clone(all), slices.Clone(allPlaces)
	if demand := impl.DemandOf(given, places, at); demand != want {
		t.Fatalf("DemandOf %+v, %v, %d: %d, not %d", table, list, at, demand, want)
	}
	if !slices.Equal(all, before) || !slices.Equal(allPlaces, placesBefore) {
		t.Fatalf("%+v, or %v, or what is behind them, has become %+v, %v", table, list, all, allPlaces)
	}
}

func checkBusy(t *testing.T, table []impl.Msg, i, want int64, wantOk bool) {
	t.Helper()
	if busy, ok := impl.BusyOf(table, i); busy != want || ok != wantOk {
		t.Fatalf("BusyOf %+v, %d: %d, %t, not %d, %t", table, i, busy, ok, want, wantOk)
	}
}

func checkCountOf(t *testing.T, table []impl.Msg, i, want int64) {
	t.Helper()
	if count := impl.CountOf(table, i); count != want {
		t.Fatalf("CountOf %+v, %d: %d, not %d", table, i, count, want)
	}
}

func checkWait(t *testing.T, table []impl.Msg, i, q, want int64, wantOk bool) {
	t.Helper()
	if wait, ok := impl.WaitOf(table, i, q); wait != want || ok != wantOk {
		t.Fatalf("WaitOf %+v, %d, %d: %d, %t, not %d, %t", table, i, q, wait, ok, want, wantOk)
	}
}

func checkBound(t *testing.T, table []impl.Msg, i, want int64, wantOk bool) {
	t.Helper()
	if bound, ok := impl.BoundOf(table, i); bound != want || ok != wantOk {
		t.Fatalf("BoundOf %+v, %d: %d, %t, not %d, %t", table, i, bound, ok, want, wantOk)
	}
}

func checkAdmitted(t *testing.T, table []impl.Msg, want bool) {
	t.Helper()
	if admitted := impl.Admitted(table); admitted != want {
		t.Fatalf("Admitted %+v: %t", table, admitted)
	}
}

// checkNoMsg fails where one of the functions that ask for a message answers other than that there is none.
func checkNoMsg(t *testing.T, table []impl.Msg, i int64) {
	t.Helper()
	checkBlock(t, table, i, -1)
	checkBusy(t, table, i, -1, false)
	checkCountOf(t, table, i, -1)
	for _, q := range append([]int64{-1, 0, 1, 100000, 100001}, farNumbers...) {
		checkWait(t, table, i, q, -1, false)
	}
	checkBound(t, table, i, -1, false)
	for _, at := range []int64{-1, 0, 1, 100000, 100001} {
		checkDemand(t, table, []int64{i}, at, -1)
	}
}

// checkMsg holds all that the chapter tells of one message of a right table against what is told by eye.
func checkMsg(t *testing.T, table []impl.Msg, i int64) {
	t.Helper()
	checkBlock(t, table, i, blockByEye(table, i))
	busy, ok := busyByEye(table, i)
	checkBusy(t, table, i, busy, ok)
	count := countByEye(table, i)
	checkCountOf(t, table, i, count)
	for _, q := range []int64{-1, 0, 1, count - 1, count, 900, 1818, 1819, 100000, 100001} {
		wait, ok := waitByEye(table, i, q)
		checkWait(t, table, i, q, wait, ok)
	}
	bound, ok := boundByEye(table, i)
	checkBound(t, table, i, bound, ok)
	list := append(higherByEye(table, i), i)
	for _, at := range []int64{-1, 0, 1, busy, table[i].Period - table[i].Jitter, table[i].Period, table[i].Period + 1, 100000, 100001} {
		checkDemand(t, table, list, at, demandByEye(table, list, at))
	}
}

// checkBounds does so of all messages of the table, and of some that are none, and of the whole table.
func checkBounds(t *testing.T, table []impl.Msg) {
	t.Helper()
	given, all := tableWithRoom(table)
	before := slices.Clone(all)
	for i := int64(-1); i <= int64(len(given)); i++ {
		if refusedByEye(given, i) {
			checkNoMsg(t, given, i)
		} else {
			checkMsg(t, given, i)
		}
	}
	checkAdmitted(t, given, admittedByEye(given))
	if !slices.Equal(all, before) {
		t.Fatalf("%+v, or what is behind it, has become %+v", table, all)
	}
}
