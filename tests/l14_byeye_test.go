package tests

import (
	"slices"
	"testing"

	"loop.example/g00753/impl"
)

// serverByEye tells in another way than the program whether a server is right.
func serverByEye(s impl.Server) bool {
	wrong := func(box []impl.Frame) bool { return !boxByEye(box) }
	if !slices.Contains([]int{2, 3, 4, 5, 6}, len(s.Boxes)) || slices.ContainsFunc(s.Boxes, wrong) || uint64(s.Busy) > 200 || uint64(s.Now) > 100000 {
		return false
	}
	if s.Busy < 4 {
		return s.Node|s.Rank == 0
	}
	for node, box := range s.Boxes {
		for _, f := range box {
			if int64(node) == s.Node && rankByEye(f) == s.Rank {
				return true
			}
		}
	}
	return false
}

// firstByEye is the node whose first frame goes on the wire next, and that frame.
func firstByEye(boxes [][]impl.Frame) (int, impl.Frame, bool) {
	var waiting []int64
	for node, box := range boxes {
		for _, f := range box {
			waiting = append(waiting, rankByEye(f)*8+int64(node))
		}
	}
	if len(waiting) == 0 {
		return 0, impl.Frame{}, false
	}
	node := int(slices.Min(waiting) % 8)
	return node, boxes[node][0], true
}

// servedByEye goes from frame to frame and not from bit to bit: free is the bit at which the next one may begin, and
// what is on the wire has been said 4 bits ahead of that.
func servedByEye(s impl.Server, bits int64) (impl.Server, []impl.Event) {
	if !serverByEye(s) {
		return impl.Server{}, nil
	}
	if bits < 0 || bits > 5000 {
		return s, nil
	}
	s.Boxes = slices.Clone(s.Boxes)
	end, free := min(s.Now+bits, 100000), s.Now+s.Busy
	says := s.Busy > 3
	var events []impl.Event
	for {
		if says && free-4 < end {
			at := slices.IndexFunc(s.Boxes[s.Node], func(f impl.Frame) bool { return rankByEye(f) == s.Rank })
			events = append(events, impl.Event{At: free - 4, Node: s.Node, Kind: 1, Frame: s.Boxes[s.Node][at]})
			s.Boxes[s.Node] = takenByEye(s.Boxes[s.Node], s.Rank)
			says, s.Node, s.Rank = false, 0, 0
		}
		if free >= end {
			break
		}
		node, f, waits := firstByEye(s.Boxes)
		if !waits {
			free = end
			break
		}
		says, s.Node, s.Rank = true, int64(node), rankByEye(f)
		free += int64(len(stuffedByEyeOf(f))) + 13
	}
	s.Busy, s.Now = free-end, end
	return s, events
}

func serverPutByEye(s impl.Server, node int64, f impl.Frame) (impl.Server, int64) {
	if !serverByEye(s) {
		return impl.Server{}, impl.BxBad
	}
	for i, box := range s.Boxes {
		if int64(i) != node {
			continue
		}
		onWire := s.Busy > 3 && node == s.Node && rightByEye(f) && rankByEye(f) == s.Rank
		if onWire {
			return s, impl.BxFull
		}
		with, code := putByEye(box, f)
		s.Boxes = slices.Concat(s.Boxes[:i], [][]impl.Frame{with}, s.Boxes[i+1:])
		return s, code
	}
	return s, impl.BxBad
}

// flatServer are all the fields of a server: alike just where the servers are.
func flatServer(s impl.Server) []int64 {
	list := []int64{s.Busy, s.Node, s.Rank, s.Now, int64(len(s.Boxes))}
	for _, box := range s.Boxes {
		list = append(append(list, int64(len(box))), flatAll(box)...)
	}
	return list
}

func sameServers(a, b impl.Server) bool {
	return slices.Equal(flatServer(a), flatServer(b))
}

// serverWithRoom is the server in new memory, with room behind each of its lists and behind all Data, and with boxes
// behind the last one; it answers the server, and what all of that memory holds.
func serverWithRoom(s impl.Server) (impl.Server, func() []int64) {
	var all [][]impl.Frame
	var rooms []func() []int64
	for _, box := range append(slices.Clone(s.Boxes), []impl.Frame{{Id: -1}}, nil, boxOf(3, 700)) {
		given, held := listWithRoom(box)
		all, rooms = append(all, given), append(rooms, held)
	}
	s.Boxes = all[:len(s.Boxes)]
	return s, func() []int64 {
		held := flatServer(impl.Server{Boxes: all})
		for _, room := range rooms {
			held = append(held, room()...)
		}
		return held
	}
}

// overwriteServer writes into each list of the server and of the events; it answers whether no two of them share memory.
func overwriteServer(s impl.Server, events []impl.Event) bool {
	var rooms [][]int64
	boxes, told := s.Boxes[:cap(s.Boxes)], events[:cap(events)]
	for _, box := range boxes {
		for _, f := range box[:cap(box)] {
			rooms = append(rooms, f.Data)
		}
	}
	for _, e := range told {
		rooms = append(rooms, e.Frame.Data)
	}
	own := ownEach(rooms, func(one *int64, number int64) { *one = number }, func(one int64) int64 { return one })
	own = ownEach(boxes, func(one *impl.Frame, number int64) { one.Id = number }, func(one impl.Frame) int64 { return one.Id }) && own
	for i := range boxes {
		boxes[i] = []impl.Frame{{Id: -9}}
	}
	for i := range told {
		told[i] = impl.Event{At: -9}
	}
	return own
}

// checkOwnServer fails where writing into an answer changes what is held, or where two lists of it share memory.
func checkOwnServer(t *testing.T, s impl.Server, events []impl.Event, held ...func() []int64) {
	t.Helper()
	var before [][]int64
	for _, h := range held {
		before = append(before, h())
	}
	if !overwriteServer(s, events) {
		t.Fatal("two lists of an answer share memory")
	}
	for i, h := range held {
		if !slices.Equal(h(), before[i]) {
			t.Fatal("an answer shares memory with an argument, or with another answer")
		}
	}
}

// checkServer fails where ServerOk is not as wanted, and where it writes into the server.
func checkServer(t *testing.T, s impl.Server, ok bool) {
	t.Helper()
	given, held := serverWithRoom(s)
	before := held()
	if told := impl.ServerOk(given); told != ok || serverByEye(s) != ok {
		t.Fatalf("ServerOk %+v: %v, or %v, not %v", s, told, serverByEye(s), ok)
	}
	if !slices.Equal(held(), before) {
		t.Fatalf("%+v, or the room behind it, is changed", s)
	}
}

// serve is ServerTick or, for some bits, ServerFor.
type serve func(s impl.Server) (impl.Server, []impl.Event)

func forBits(bits int64) serve {
	return func(s impl.Server) (impl.Server, []impl.Event) { return impl.ServerFor(s, bits) }
}

// checkServe fails where the call does not answer this server and these events, where it writes into the server, and
// where the answer is not new memory.
func checkServe(t *testing.T, call serve, s impl.Server, want impl.Server, events []impl.Event) {
	t.Helper()
	given, held := serverWithRoom(s)
	before := held()
	after, told := call(given)
	if !sameServers(after, want) || !sameEvents(told, events) {
		t.Fatalf("%+v:\n%+v, %+v, not\n%+v, %+v", s, after, told, want, events)
	}
	if !slices.Equal(held(), before) {
		t.Fatalf("%+v, or the room behind it, is changed", s)
	}
	second, other := call(given)
	checkOwnServer(t, after, told, held, func() []int64 { return append(flatServer(second), flatEvents(other)...) })
}

// checkServedFor is checkServe of ServerFor, of ServerTick too where it is one bit, and of the other way.
func checkServedFor(t *testing.T, s impl.Server, bits int64, want impl.Server, events []impl.Event) {
	t.Helper()
	if byEye, by := servedByEye(s, bits); !sameServers(byEye, want) || !sameEvents(by, events) {
		t.Fatalf("%+v for %d bits is not told in the other way:\n%+v, %+v, not\n%+v, %+v", s, bits, byEye, by, want, events)
	}
	checkServe(t, forBits(bits), s, want, events)
	if bits == 1 {
		checkServe(t, impl.ServerTick, s, want, events)
	}
}

func checkServedByEye(t *testing.T, s impl.Server, bits int64) []impl.Event {
	t.Helper()
	want, events := servedByEye(s, bits)
	checkServedFor(t, s, bits, want, events)
	return events
}

// checkServerPut is for ServerPut what checkServedFor is for ServerFor.
func checkServerPut(t *testing.T, s impl.Server, node int64, f impl.Frame, want impl.Server, code int64) {
	t.Helper()
	given, held := serverWithRoom(s)
	g, room := withRoom(f)
	before, roomBefore := held(), slices.Clone(room)
	after, told := impl.ServerPut(given, node, g)
	if told != code || !sameServers(after, want) {
		t.Fatalf("%+v put at %d of %+v: code %d,\n%+v, not %d,\n%+v", f, node, s, told, after, code, want)
	}
	if byEye, by := serverPutByEye(s, node, f); by != code || !sameServers(byEye, want) {
		t.Fatalf("%+v put at %d of %+v is not told in the other way: %d, %+v", f, node, s, by, byEye)
	}
	if !slices.Equal(held(), before) || !slices.Equal(room, roomBefore) {
		t.Fatalf("%+v or %+v, or the room behind them, is changed", s, f)
	}
	second, _ := impl.ServerPut(given, node, g)
	checkOwnServer(t, after, nil, held, func() []int64 { return slices.Clone(room) }, func() []int64 { return flatServer(second) })
}

// checkServerRefused fails where a server that is not right is answered by anything but what is fixed for that.
func checkServerRefused(t *testing.T, s impl.Server) {
	t.Helper()
	checkServer(t, s, false)
	zero := impl.Server{}
	for _, bits := range []int64{-1, 0, 1, 5000, 5001} {
		checkServedFor(t, s, bits, zero, nil)
	}
	for _, node := range []int64{-1, 0, 1, int64(len(s.Boxes))} {
		checkServerPut(t, s, node, impl.Frame{Id: 5}, zero, impl.BxBad)
		checkServerPut(t, s, node, impl.Frame{Id: -1}, zero, impl.BxBad)
	}
}

// serverOf is a server with these boxes whose wire is free.
func serverOf(boxes ...[]impl.Frame) impl.Server {
	return impl.Server{Boxes: boxes}
}

// onWire is the server while that node says the frame of that rank, with so many bits still to go.
func onWire(s impl.Server, busy, node, rank int64) impl.Server {
	s.Busy, s.Node, s.Rank = busy, node, rank
	return s
}

// withBox is the server with another box in that place.
func withBox(s impl.Server, place int, box []impl.Frame) impl.Server {
	s.Boxes = slices.Replace(slices.Clone(s.Boxes), place, place+1, box)
	return s
}

// someServer is a right server of whatever boxes, somewhere in a frame, behind it or free.
func someServer(d *dice) impl.Server {
	boxes := [][]impl.Frame{nil, nil, boxOf(10), boxOf(3, 10, 701), boxOf(700, 701), boxOf(4095), fullBox()}
	s := impl.Server{Now: int64(d.below(100001))}
	if d.below(4) == 0 {
		s.Now = 100000 - int64(d.below(200))
	}
	for range 2 + d.below(5) {
		s.Boxes = append(s.Boxes, boxes[d.below(len(boxes))])
	}
	node := d.below(len(s.Boxes))
	if box := s.Boxes[node]; len(box) > 0 && d.below(3) > 0 {
		return onWire(s, []int64{4, 5, 50, 133, 200, 4 + int64(d.below(197))}[d.below(6)], int64(node), rankByEye(box[d.below(len(box))]))
	}
	s.Busy = int64(d.below(4))
	return s
}
