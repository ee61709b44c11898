package tests

import (
	"slices"
	"strconv"
	"testing"

	"loop.example/g00753/impl"
)

// In the tail who hears must see the first of these levels, and who sends the second ones; a blank is any level.
const tailHearing = "1 1111111 "
const tailSending = "1011111111"

// breaksByEye tells whether a right node breaks off at that level.
func breaksByEye(n impl.Node, level int64) bool {
	tail := tailHearing
	if n.Tx {
		tail = tailSending
	}
	switch {
	case n.Phase == impl.PhTail:
		must := tail[n.At:][:1]
		return n.At == 2 && n.Bad || must != " " && must != strconv.FormatInt(level, 10)
	case n.Phase != impl.PhBody:
		return false
	case n.Run == 5:
		return level == n.Last
	}
	return n.Tx && level+nextByEye(n) == 1 && (level == 1 || len(n.Got) > 12)
}

// brokenByEye is made of all that stays of a node that breaks off, and of what it is then.
func brokenByEye(n impl.Node) (impl.Node, impl.Happen) {
	c := n.Count
	if n.Tx {
		c.Sent = min(c.Sent+8, 1000)
	} else {
		c.Got = min(c.Got+1, 1000)
	}
	after := impl.Node{Phase: impl.PhFlag, Tx: n.Tx, Mild: max(c.Sent, c.Got) > 127, Frame: n.Frame, Left: 6, Count: c, Box: n.Box, Fifo: n.Fifo, Filters: n.Filters}
	if c.Sent < 256 {
		return after, impl.Happen{Kind: impl.HpErr}
	}
	after.Phase, after.Left, after.Mild = impl.PhOff, 128, n.Mild
	return after, impl.Happen{Kind: impl.HpOff}
}

// bodyByEyeAfter is what a node in PhBody makes of a level at which it does not break off.
func bodyByEyeAfter(n impl.Node, level int64) impl.Node {
	alike := level == n.Last
	if n.Run < 5 {
		n.Tx = n.Tx && level == nextByEye(n)
		n.Got += strconv.FormatInt(level, 10)
	}
	n.Last = level
	if alike {
		n.Run++
	} else {
		n.Run = 1
	}
	if wholeByEye(n.Got) && n.Run < 5 {
		_, code := readByEye(n.Got)
		n.Phase, n.At, n.Left, n.Bad = impl.PhTail, 0, 0, code > 0 && !n.Tx
	}
	return n
}

func heardByEye(n impl.Node) (impl.Node, impl.Happen) {
	if n.Count.Got < 128 {
		n.Count.Got = max(n.Count.Got, 1) - 1
	} else {
		n.Count.Got = 119
	}
	f, _ := readByEye(n.Got)
	if !passesByEye(n.Filters, f.Id) {
		return n, impl.Happen{}
	}
	var room bool
	n.Fifo, room = pushedByEye(n.Fifo, f)
	return n, impl.Happen{Kind: map[bool]int64{true: 2, false: 3}[room], Frame: f}
}

// tailByEyeAfter is what a node in PhTail makes of a level at which it does not break off.
func tailByEyeAfter(n impl.Node) (impl.Node, impl.Happen) {
	n.At++
	switch {
	case n.At == 10:
		n.Phase, n.Left, n.Got, n.Run, n.Last, n.At = impl.PhInter, 3, "", 0, 0, 0
		if n.Tx {
			n.Count.Sent = max(n.Count.Sent, 1) - 1
			n.Box = takenByEye(n.Box, rankByEye(n.Frame))
			return n, impl.Happen{Kind: impl.HpSent, Frame: n.Frame}
		}
	case n.At == 9 && !n.Tx:
		return heardByEye(n)
	}
	return n, impl.Happen{}
}

// startedByEye has seen the first bit of a frame: that of the first of these frames, if any.
func startedByEye(n impl.Node, own ...impl.Frame) impl.Node {
	n.Phase, n.Tx, n.Bad, n.Got, n.Run, n.Last, n.Left = impl.PhBody, len(own) > 0, false, "0", 1, 0, 0
	if n.Tx {
		n.Frame = own[0]
	}
	return n
}

// countingByEye is what the Phases make of a level in which a node but counts.
func countingByEye(n impl.Node, level int64) (impl.Node, impl.Happen) {
	last := n.Left < 2
	switch {
	case n.Phase == impl.PhDelim && level == 0:
		n.Left = 8
		return n, impl.Happen{}
	case n.Phase == impl.PhOff && level == 0, n.Phase == impl.PhOff && n.Run < 10:
		n.Run = (n.Run + 1) * level
		return n, impl.Happen{}
	case !last:
		n.Left--
	case n.Phase == impl.PhFlag:
		n.Phase, n.Left = impl.PhDelim, 8
	case n.Phase == impl.PhDelim:
		n.Phase, n.Left = impl.PhInter, 3
	case n.Phase == impl.PhInter && n.Tx && stateByEye(n.Count) == impl.StMild:
		n.Phase, n.Left, n.Tx, n.Frame = impl.PhWait, 8, false, impl.Frame{}
	case n.Phase == impl.PhInter:
		n.Phase, n.Left, n.Tx, n.Frame = impl.PhIdle, 0, false, impl.Frame{}
	case n.Phase == impl.PhWait:
		n.Phase, n.Left = impl.PhIdle, 0
	case n.Phase == impl.PhOff:
		n.Phase, n.Left, n.Run, n.Count, n.Tx, n.Mild, n.Frame = impl.PhIdle, 0, 0, impl.Count{}, false, false, impl.Frame{}
		return n, impl.Happen{Kind: impl.HpBack}
	}
	if n.Phase == impl.PhOff {
		n.Run = 0
	}
	return n, impl.Happen{}
}

// sampledByEye tells in another way than the program what a node makes of a level.
func sampledByEye(n impl.Node, level int64) (impl.Node, impl.Happen) {
	switch {
	case !nodeByEye(n) || level != 0 && level != 1:
		return impl.Node{}, impl.Happen{}
	case breaksByEye(n, level):
		return brokenByEye(n)
	case n.Phase == impl.PhBody:
		return bodyByEyeAfter(n, level), impl.Happen{}
	case n.Phase == impl.PhTail:
		return tailByEyeAfter(n)
	case n.Phase == impl.PhIdle && level == 1:
		return n, impl.Happen{}
	case n.Phase == impl.PhIdle:
		n.Frame = impl.Frame{}
		return startedByEye(n, n.Box...), impl.Happen{}
	case n.Phase == impl.PhWait && level == 0:
		return startedByEye(n), impl.Happen{}
	}
	return countingByEye(n, level)
}

func sendingByEye(n impl.Node) int64 {
	silent := map[int64]bool{impl.PhIdle: true, impl.PhInter: true}
	if silent[n.Phase] || !n.Tx || !rightByEye(n.Frame) {
		return -1
	}
	return rankByEye(n.Frame)
}

func queuedByEye(n impl.Node, f impl.Frame) (impl.Node, int64) {
	switch {
	case !nodeByEye(n):
		return impl.Node{}, impl.BxBad
	case rightByEye(f) && rankByEye(f) == sendingByEye(n):
		return n, impl.BxFull
	}
	var code int64
	n.Box, code = putByEye(n.Box, f)
	return n, code
}

// flatNode are all the fields of a node: alike just where the nodes are.
func flatNode(n impl.Node) []int64 {
	list := []int64{n.Phase, n.Run, n.Last, n.At, n.Left, n.Count.Sent, n.Count.Got}
	for _, is := range []bool{n.Tx, n.Mild, n.Bad} {
		list = append(list, map[bool]int64{true: 1}[is])
	}
	list = append(list, int64(len(n.Got)))
	for _, bit := range []byte(n.Got) {
		list = append(list, int64(bit))
	}
	for _, frames := range [][]impl.Frame{{n.Frame}, n.Box, n.Fifo} {
		list = append(append(list, int64(len(frames))), flatAll(frames)...)
	}
	for _, f := range n.Filters {
		list = append(list, f.Mask, f.Code)
	}
	return list
}

func sameNodes(a, b impl.Node) bool {
	return slices.Equal(flatNode(a), flatNode(b))
}

func sameHappens(a, b impl.Happen) bool {
	return a.Kind == b.Kind && slices.Equal(flat(a.Frame), flat(b.Frame))
}

// overwrite writes a number of its own into each list of the node, into each Data and into the room behind these; it
// answers whether each of them still has its own at the end, and so shares memory with no other one.
func overwrite(n impl.Node, beside impl.Frame) bool {
	box, fifo, filters := n.Box[:cap(n.Box)], n.Fifo[:cap(n.Fifo)], n.Filters[:cap(n.Filters)]
	var rooms [][]int64
	for _, f := range slices.Concat(box, fifo, []impl.Frame{n.Frame, beside}) {
		rooms = append(rooms, f.Data[:cap(f.Data)])
	}
	for i, room := range rooms {
		for k := range room {
			room[k] = int64(-1000 - i)
		}
	}
	for k := range box {
		box[k].Id = -5
	}
	for k := range fifo {
		fifo[k].Id = -6
	}
	for k := range filters {
		filters[k] = impl.Filter{Mask: -77, Code: -78}
	}
	for i, room := range rooms {
		if slices.ContainsFunc(room, func(b int64) bool { return b != int64(-1000-i) }) {
			return false
		}
	}
	return !slices.ContainsFunc(box, func(f impl.Frame) bool { return f.Id != -5 })
}

// checkOwnNode fails where writing into an answer changes what is held, or where two lists of it share memory.
func checkOwnNode(t *testing.T, n impl.Node, beside impl.Frame, held ...func() []int64) {
	t.Helper()
	var before [][]int64
	for _, h := range held {
		before = append(before, h())
	}
	if !overwrite(n, beside) {
		t.Fatalf("two lists of an answer share memory: %+v, %+v", n, beside)
	}
	for i, h := range held {
		if !slices.Equal(h(), before[i]) {
			t.Fatal("an answer shares memory with an argument, or with another answer")
		}
	}
}

// checkSampled fails where Sampled does not answer this node and this Happen, where the other way does not, where it
// writes into the node, and where the answer is not new memory, or not right.
func checkSampled(t *testing.T, n impl.Node, level int64, want impl.Node, happen impl.Happen) {
	t.Helper()
	given, held := nodeWithRoom(n)
	before := held()
	after, told := impl.Sampled(given, level)
	if !sameNodes(after, want) || !sameHappens(told, happen) {
		t.Fatalf("%+v at %d:\n%+v, %+v, not\n%+v, %+v", n, level, after, told, want, happen)
	}
	if byEye, kind := sampledByEye(n, level); !sameNodes(byEye, want) || !sameHappens(kind, happen) {
		t.Fatalf("%+v at %d is not told in the other way:\n%+v, %+v, not\n%+v, %+v", n, level, byEye, kind, want, happen)
	}
	if !impl.NodeOk(after) {
		t.Fatalf("%+v at %d is not right any more: %+v", n, level, after)
	}
	if !slices.Equal(held(), before) {
		t.Fatalf("%+v, or the room behind it, is changed", n)
	}
	second, _ := impl.Sampled(given, level)
	checkOwnNode(t, after, told.Frame, held, func() []int64 { return flatNode(second) })
}

// checkSampledByEye is for where the other way alone tells what must be answered.
func checkSampledByEye(t *testing.T, n impl.Node, level int64) int64 {
	t.Helper()
	want, happen := sampledByEye(n, level)
	checkSampled(t, n, level, want, happen)
	return happen.Kind
}

func checkBreaksOff(t *testing.T, n impl.Node, level int64) {
	t.Helper()
	want, happen := brokenByEye(n)
	checkSampled(t, n, level, want, happen)
}

// checkStays fails where anything becomes of the node, or is told.
func checkStays(t *testing.T, n impl.Node, level int64) {
	t.Helper()
	checkSampled(t, n, level, n, impl.Happen{})
}

func checkQueued(t *testing.T, n impl.Node, f impl.Frame, want impl.Node, code int64) {
	t.Helper()
	given, held := nodeWithRoom(n)
	g, room := withRoom(f)
	before, roomBefore := held(), slices.Clone(room)
	after, told := impl.Queued(given, g)
	if told != code || !sameNodes(after, want) {
		t.Fatalf("%+v queued at %+v: code %d,\n%+v, not %d,\n%+v", f, n, told, after, code, want)
	}
	if byEye, by := queuedByEye(n, f); by != code || !sameNodes(byEye, want) {
		t.Fatalf("%+v queued at %+v is not told in the other way: %d, %+v", f, n, by, byEye)
	}
	if !impl.NodeOk(after) {
		t.Fatalf("with %+v %+v is not right any more: %+v", f, n, after)
	}
	if !slices.Equal(held(), before) || !slices.Equal(room, roomBefore) {
		t.Fatalf("%+v or %+v, or the room behind them, is changed", n, f)
	}
	second, _ := impl.Queued(given, g)
	checkOwnNode(t, after, impl.Frame{}, held, func() []int64 { return slices.Clone(room) }, func() []int64 { return flatNode(second) })
}

func checkSending(t *testing.T, n impl.Node, want int64) {
	t.Helper()
	given, held := nodeWithRoom(n)
	before := held()
	if rank := impl.Sending(given); rank != want || sendingByEye(n) != want {
		t.Fatalf("Sending %+v: %d, or %d, not %d", n, rank, sendingByEye(n), want)
	}
	if !slices.Equal(held(), before) {
		t.Fatalf("%+v, or the room behind it, is changed", n)
	}
}

// with is a node that is this one, but for what is done to it.
func with(n impl.Node, changes ...func(n *impl.Node)) impl.Node {
	for _, change := range changes {
		change(&n)
	}
	return n
}

// worn has something in each of its fields.
func worn() impl.Node {
	return impl.Node{
		Tx: true, Mild: true, Bad: true, Frame: dataFrame(9, 7, 7), Got: "0110", Run: 4, Last: 1, At: 7, Left: 99, Count: impl.Count{Sent: 30, Got: 40},
		Box: boxOf(4, 18, 40), Fifo: []impl.Frame{dataFrame(3, 5), remoteFrame(3, 5)}, Filters: []impl.Filter{forOne(9), {Mask: 3, Code: 1}},
	}
}
