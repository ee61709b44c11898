package tests

import (
	"slices"
	"testing"

	"loop.example/g00753/impl"
)

// busByEye tells in another way than the program whether a bus is right.
func busByEye(b impl.Bus) bool {
	wrong := func(n impl.Node) bool { return !nodeByEye(n) }
	return slices.Contains([]int{2, 3, 4, 5, 6}, len(b.Nodes)) && uint64(b.Now) < 100001 && !slices.ContainsFunc(b.Nodes, wrong)
}

// levelByEye is the product of all levels: 1 only where each of them is.
func levelByEye(b impl.Bus) int64 {
	level := int64(1)
	for _, n := range b.Nodes {
		level *= drivesByEye(n)
	}
	if busByEye(b) {
		return level
	}
	return 1
}

// tickedByEye writes down ahead of all else which level each node sees.
func tickedByEye(b impl.Bus, flips []bool) (impl.Bus, []impl.Event) {
	if !busByEye(b) {
		return impl.Bus{}, nil
	}
	if b.Now == 100000 {
		return b, nil
	}
	sees := slices.Repeat([]int64{levelByEye(b)}, max(len(flips), 6))
	for i, flip := range flips {
		sees[i] ^= map[bool]int64{true: 1}[flip]
	}
	after := impl.Bus{Nodes: slices.Clone(b.Nodes), Now: b.Now + 1}
	var events []impl.Event
	for i := range b.Nodes {
		var told impl.Happen
		after.Nodes[i], told = sampledByEye(b.Nodes[i], sees[i])
		if told.Kind > 0 {
			events = append(events, impl.Event{At: b.Now, Node: int64(i), Kind: told.Kind, Frame: told.Frame})
		}
	}
	return after, events
}

// ranByEye is one bit, and then the rest of them.
func ranByEye(b impl.Bus, bits int64) (impl.Bus, []impl.Event) {
	var all []impl.Event
	if !busByEye(b) {
		return impl.Bus{}, nil
	}
	for ; bits > 0 && bits <= 5000 && b.Now < 100000; bits-- {
		after, events := tickedByEye(b, nil)
		b, all = after, slices.Concat(all, events)
	}
	return b, all
}

func queuedAtByEye(b impl.Bus, node int64, f impl.Frame) (impl.Bus, int64) {
	if !busByEye(b) {
		return impl.Bus{}, impl.BxBad
	}
	for i, n := range b.Nodes {
		if int64(i) == node {
			with, code := queuedByEye(n, f)
			b.Nodes = slices.Concat(b.Nodes[:i], []impl.Node{with}, b.Nodes[i+1:])
			return b, code
		}
	}
	return b, impl.BxBad
}

// flatBus are all the fields of a bus: alike just where the buses are.
func flatBus(b impl.Bus) []int64 {
	list := []int64{b.Now, int64(len(b.Nodes))}
	for _, n := range b.Nodes {
		one := flatNode(n)
		list = append(append(list, int64(len(one))), one...)
	}
	return list
}

func flatEvents(events []impl.Event) []int64 {
	var list []int64
	for _, e := range events {
		one := flat(e.Frame)
		list = append(append(list, e.At, e.Node, e.Kind, int64(len(one))), one...)
	}
	return list
}

func sameBuses(a, b impl.Bus) bool {
	return slices.Equal(flatBus(a), flatBus(b))
}

func sameEvents(a, b []impl.Event) bool {
	return slices.Equal(flatEvents(a), flatEvents(b))
}

// busWithRoom is the bus in new memory, with room behind each of its lists and behind all Data, and with nodes behind
// the last one; it answers the bus, and what all of that memory holds.
func busWithRoom(b impl.Bus) (impl.Bus, func() []int64) {
	var all []impl.Node
	var rooms []func() []int64
	for _, n := range append(slices.Clone(b.Nodes), impl.Node{Phase: 8}, impl.Node{}, worn()) {
		given, held := nodeWithRoom(n)
		all, rooms = append(all, given), append(rooms, held)
	}
	b.Nodes = all[:len(b.Nodes)]
	return b, func() []int64 {
		held := flatBus(impl.Bus{Nodes: all})
		for _, room := range rooms {
			held = append(held, room()...)
		}
		return held
	}
}

func flipsWithRoom(flips []bool) ([]bool, func() []int64) {
	all := append(slices.Clone(flips), true, false, true, true, false, true, true)
	return all[:len(flips)], func() []int64 {
		var held []int64
		for _, flip := range all {
			held = append(held, map[bool]int64{true: 1}[flip])
		}
		return held
	}
}

// ownEach writes a number of its own into each of the lists, and into the room behind it; it answers whether each of them
// still has its own at the end.
func ownEach[T any](lists [][]T, write func(one *T, number int64), read func(one T) int64) bool {
	for i, list := range lists {
		for k := range list[:cap(list)] {
			write(&list[:cap(list)][k], int64(-1000-i))
		}
	}
	for i, list := range lists {
		if slices.ContainsFunc(list[:cap(list)], func(one T) bool { return read(one) != int64(-1000-i) }) {
			return false
		}
	}
	return true
}

// overwriteBus writes into each list of the bus and of the events; it answers whether no two of them share memory.
func overwriteBus(b impl.Bus, events []impl.Event) bool {
	var rooms [][]int64
	var frames [][]impl.Frame
	var filters [][]impl.Filter
	nodes, told := b.Nodes[:cap(b.Nodes)], events[:cap(events)]
	for _, n := range nodes {
		frames, filters = append(frames, n.Box, n.Fifo), append(filters, n.Filters)
		rooms = append(rooms, n.Frame.Data)
	}
	for _, e := range told {
		rooms = append(rooms, e.Frame.Data)
	}
	for _, list := range frames {
		for _, f := range list[:cap(list)] {
			rooms = append(rooms, f.Data)
		}
	}
	own := ownEach(rooms, func(one *int64, number int64) { *one = number }, func(one int64) int64 { return one })
	own = ownEach(frames, func(one *impl.Frame, number int64) { one.Id = number }, func(one impl.Frame) int64 { return one.Id }) && own
	own = ownEach(filters, func(one *impl.Filter, number int64) { one.Mask = number }, func(one impl.Filter) int64 { return one.Mask }) && own
	for i := range nodes {
		nodes[i] = impl.Node{Phase: -9}
	}
	for i := range told {
		told[i] = impl.Event{At: -9}
	}
	return own
}

// checkOwnBus fails where writing into an answer changes what is held, or where two lists of it share memory.
func checkOwnBus(t *testing.T, b impl.Bus, events []impl.Event, held ...func() []int64) {
	t.Helper()
	var before [][]int64
	for _, h := range held {
		before = append(before, h())
	}
	if !overwriteBus(b, events) {
		t.Fatal("two lists of an answer share memory")
	}
	for i, h := range held {
		if !slices.Equal(h(), before[i]) {
			t.Fatal("an answer shares memory with an argument, or with another answer")
		}
	}
}

// checkBus fails where BusOk and LevelOf are not as wanted, and where they write into the bus.
func checkBus(t *testing.T, b impl.Bus, ok bool, level int64) {
	t.Helper()
	given, held := busWithRoom(b)
	before := held()
	if told := impl.BusOk(given); told != ok || busByEye(b) != ok {
		t.Fatalf("BusOk %+v: %v, or %v, not %v", b, told, busByEye(b), ok)
	}
	if told := impl.LevelOf(given); told != level || levelByEye(b) != level {
		t.Fatalf("LevelOf %+v: %d, or %d, not %d", b, told, levelByEye(b), level)
	}
	if !slices.Equal(held(), before) {
		t.Fatalf("%+v, or the room behind it, is changed", b)
	}
}

// checkTicked fails where Ticked does not answer this bus and these events, where the other way does not, where it
// writes into an argument, and where the answer is not new memory.
func checkTicked(t *testing.T, b impl.Bus, flips []bool, want impl.Bus, events []impl.Event) {
	t.Helper()
	given, held := busWithRoom(b)
	turns, turned := flipsWithRoom(flips)
	before, turnedBefore := held(), turned()
	after, told := impl.Ticked(given, turns)
	if !sameBuses(after, want) || !sameEvents(told, events) {
		t.Fatalf("%+v with %v:\n%+v, %+v, not\n%+v, %+v", b, flips, after, told, want, events)
	}
	if byEye, by := tickedByEye(b, flips); !sameBuses(byEye, want) || !sameEvents(by, events) {
		t.Fatalf("%+v with %v is not told in the other way:\n%+v, %+v, not\n%+v, %+v", b, flips, byEye, by, want, events)
	}
	if !slices.Equal(held(), before) || !slices.Equal(turned(), turnedBefore) {
		t.Fatalf("%+v or %v, or the room behind them, is changed", b, flips)
	}
	second, other := impl.Ticked(given, turns)
	checkOwnBus(t, after, told, held, turned, func() []int64 { return append(flatBus(second), flatEvents(other)...) })
}

func checkTickedByEye(t *testing.T, b impl.Bus, flips []bool) []impl.Event {
	t.Helper()
	want, events := tickedByEye(b, flips)
	checkTicked(t, b, flips, want, events)
	return events
}

// checkRan is for RunFor what checkTicked is for Ticked.
func checkRan(t *testing.T, b impl.Bus, bits int64, want impl.Bus, events []impl.Event) {
	t.Helper()
	given, held := busWithRoom(b)
	before := held()
	after, told := impl.RunFor(given, bits)
	if !sameBuses(after, want) || !sameEvents(told, events) {
		t.Fatalf("%+v for %d bits:\n%+v, %+v, not\n%+v, %+v", b, bits, after, told, want, events)
	}
	if !slices.Equal(held(), before) {
		t.Fatalf("%+v, or the room behind it, is changed", b)
	}
	second, other := impl.RunFor(given, bits)
	checkOwnBus(t, after, told, held, func() []int64 { return append(flatBus(second), flatEvents(other)...) })
}

// checkQueuedAt is for QueuedAt what checkTicked is for Ticked.
func checkQueuedAt(t *testing.T, b impl.Bus, node int64, f impl.Frame, want impl.Bus, code int64) {
	t.Helper()
	given, held := busWithRoom(b)
	g, room := withRoom(f)
	before, roomBefore := held(), slices.Clone(room)
	after, told := impl.QueuedAt(given, node, g)
	if told != code || !sameBuses(after, want) {
		t.Fatalf("%+v queued at %d of %+v: code %d,\n%+v, not %d,\n%+v", f, node, b, told, after, code, want)
	}
	if byEye, by := queuedAtByEye(b, node, f); by != code || !sameBuses(byEye, want) {
		t.Fatalf("%+v queued at %d of %+v is not told in the other way: %d, %+v", f, node, b, by, byEye)
	}
	if !slices.Equal(held(), before) || !slices.Equal(room, roomBefore) {
		t.Fatalf("%+v or %+v, or the room behind them, is changed", b, f)
	}
	second, _ := impl.QueuedAt(given, node, g)
	checkOwnBus(t, after, nil, held, func() []int64 { return slices.Clone(room) }, func() []int64 { return flatBus(second) })
}

// checkBusRefused fails where a bus that is not right is answered by anything but what is fixed for that.
func checkBusRefused(t *testing.T, b impl.Bus) {
	t.Helper()
	checkBus(t, b, false, 1)
	zero := impl.Bus{}
	checkTicked(t, b, nil, zero, nil)
	checkTicked(t, b, []bool{true, false, true}, zero, nil)
	for _, bits := range []int64{-1, 0, 1, 5000, 5001} {
		checkRan(t, b, bits, zero, nil)
	}
	for _, node := range []int64{-1, 0, 1, int64(len(b.Nodes))} {
		checkQueuedAt(t, b, node, impl.Frame{Id: 5}, zero, impl.BxBad)
		checkQueuedAt(t, b, node, impl.Frame{Id: -1}, zero, impl.BxBad)
	}
}

// busOf is a bus of these nodes that has not begun.
func busOf(nodes ...impl.Node) impl.Bus {
	return impl.Bus{Nodes: nodes}
}

// newBus is a NewBus of so many nodes without filters.
func newBus(t *testing.T, nodes int) impl.Bus {
	t.Helper()
	b, ok := impl.NewBus(make([][]impl.Filter, nodes))
	if !ok {
		t.Fatalf("there is no bus of %d nodes", nodes)
	}
	return b
}

// queued is the bus where that node has queued it, with no other of its rank there.
func queued(t *testing.T, b impl.Bus, node int64, f impl.Frame) impl.Bus {
	t.Helper()
	with, code := impl.QueuedAt(b, node, f)
	if code != impl.BxOk {
		t.Fatalf("%+v queued at %d of %+v: code %d", f, node, b, code)
	}
	return with
}
