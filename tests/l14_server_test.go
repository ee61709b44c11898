package tests

import (
	"slices"
	"testing"

	"loop.example/g00753/impl"
)

// serverBoxes are right boxes; some are empty, some have ranks of others.
func serverBoxes() [][]impl.Frame {
	return [][]impl.Frame{boxOf(10), nil, boxOf(3, 10, 701), {}, fullBox(), boxOf(0, 4095), boxOf(11)}
}

// someBoxes are so many of the boxes, from one on, and again from the first.
func someBoxes(first, count int) [][]impl.Frame {
	boxes := serverBoxes()
	var list [][]impl.Frame
	for i := range count {
		list = append(list, boxes[(first+i)%len(boxes)])
	}
	return list
}

func TestServerSizes(t *testing.T) {
	checkServerRefused(t, impl.Server{})
	checkServerRefused(t, serverOf([][]impl.Frame{}...))
	for first := range serverBoxes() {
		for size := range 9 {
			s := serverOf(someBoxes(first, size)...)
			if size < 2 || size > 6 {
				checkServerRefused(t, s)
			} else {
				checkServer(t, s, true)
			}
			// The first box that is not empty may be on the wire: that makes no other size right.
			for node, box := range s.Boxes {
				if len(box) > 0 {
					checkServer(t, onWire(s, 4, int64(node), rankByEye(box[0])), size >= 2 && size <= 6)
				}
			}
		}
	}
	if impl.ServerOk(impl.Server{Boxes: make([][]impl.Frame, 65538)}) {
		t.Error("65538 boxes are a server")
	}
}

// A box that is not right, at each place, whether a frame is on the wire or not, and whether it is that box or not.
func TestServerWrongBoxes(t *testing.T) {
	var wrong [][]impl.Frame
	for _, f := range wrongEach() {
		wrong = append(wrong, []impl.Frame{f})
	}
	wrong = slices.Concat(wrong, wrongBoxes(), [][]impl.Frame{{{}, {}}, boxOf(10, 10), boxOf(10, 3), boxOf(upTo(0, 16)...)})
	for size := 2; size <= 6; size++ {
		for place := range size {
			for i, box := range wrong {
				s := withBox(serverOf(someBoxes(i, size)...), place, box)
				if (i+place)%5 == 0 {
					checkServerRefused(t, s)
				}
				checkServer(t, s, false)
				for node, other := range s.Boxes {
					if len(other) > 0 {
						checkServer(t, onWire(s, 100, int64(node), impl.RankOf(other[0])), false)
					}
				}
			}
		}
	}
}

// At each Busy that there is, and past the ends: Node and Rank are both 0 up to 3, and behind that who says what.
func TestServerBusy(t *testing.T) {
	s := serverOf(nil, boxOf(10, 12), boxOf(7))
	for busy := int64(-3); busy < 210; busy++ {
		free, says := onWire(s, busy, 0, 0), onWire(s, busy, 1, 12)
		checkServer(t, free, busy >= 0 && busy <= 3)
		checkServer(t, says, busy >= 4 && busy <= 200)
		if busy < 0 || busy > 200 {
			checkServerRefused(t, free)
			checkServerRefused(t, says)
		}
	}
	for _, busy := range farNumbers {
		checkServerRefused(t, onWire(s, busy, 0, 0))
		checkServerRefused(t, onWire(s, busy, 1, 12))
	}
	// Rank 0 of node 0 is one like all others.
	for _, busy := range []int64{-1, 0, 3, 4, 200, 201} {
		checkServer(t, onWire(serverOf(boxOf(0), nil), busy, 0, 0), busy >= 0 && busy <= 200)
		checkServer(t, onWire(serverOf(nil, boxOf(0)), busy, 0, 0), busy >= 0 && busy <= 3)
		checkServer(t, onWire(serverOf(boxOf(1), boxOf(0)), busy, 0, 0), busy >= 0 && busy <= 3)
	}
}

func TestServerNow(t *testing.T) {
	for _, s := range []impl.Server{serverOf(nil, nil), serverOf(boxOf(4), nil, fullBox()), onWire(serverOf(nil, boxOf(10, 12)), 4, 1, 12), onWire(serverOf(boxOf(4), nil), 3, 0, 0)} {
		for _, now := range []int64{0, 1, 5000, 99999, 100000} {
			s.Now = now
			checkServer(t, s, true)
		}
		for _, now := range append([]int64{-1, -2, 100001, 100002, 200000}, farNumbers...) {
			// A few of the far numbers are not far enough for Now.
			if now < 0 || now > 100000 {
				s.Now = now
				checkServerRefused(t, s)
			}
		}
	}
}

// Where no frame is on the wire Node and Rank are both 0, whatever is in the boxes.
func TestServerFree(t *testing.T) {
	for busy := range int64(4) {
		for _, s := range []impl.Server{serverOf(nil, nil), serverOf(boxOf(10, 12), boxOf(7), boxOf(0, 1)), serverOf(boxOf(0), boxOf(0, 1))} {
			checkServer(t, onWire(s, busy, 0, 0), true)
			for _, number := range append([]int64{-1, 1, 2, 5, 6, 7, 10, 12}, farNumbers...) {
				checkServerRefused(t, onWire(s, busy, number, 0))
				checkServerRefused(t, onWire(s, busy, 0, number))
			}
			checkServerRefused(t, onWire(s, busy, 1, 7))
			checkServerRefused(t, onWire(s, busy, 1, 1))
			checkServerRefused(t, onWire(s, busy, -1, -1))
		}
	}
}

// Where a frame is on the wire Node is who has it, and Rank is its rank, first in that box or not.
func TestServerSaying(t *testing.T) {
	s := serverOf(boxOf(10, 12, 700), nil, boxOf(7, 12), []impl.Frame{}, fullBox(), boxOf(4095))
	for _, busy := range []int64{4, 5, 60, 199, 200} {
		for node := int64(-2); node < 9; node++ {
			for _, rank := range append([]int64{-2, -1, 1, 701, 4096}, 0, 4, 6, 7, 8, 10, 11, 12, 13, 34, 35, 700, 4094, 4095) {
				says := onWire(s, busy, node, rank)
				ok := node == 0 && (rank == 10 || rank == 12 || rank == 700) || node == 2 && (rank == 7 || rank == 12) || node == 5 && rank == 4095 || node == 4 && slices.Contains([]int64{4, 6, 8, 10, 12, 34}, rank)
				checkServer(t, says, ok)
				if !ok && busy == 60 {
					checkServerRefused(t, says)
				}
			}
		}
		for _, number := range farNumbers {
			checkServerRefused(t, onWire(s, busy, number, 10))
			checkServerRefused(t, onWire(s, busy, 0, number))
		}
	}
	// Of two nodes the last one is 1, of six it is 5; one past it there is a box, but behind the end.
	for size := 2; size <= 6; size++ {
		boxes := slices.Repeat([][]impl.Frame{boxOf(5)}, 7)[:size]
		checkServer(t, onWire(serverOf(boxes...), 9, int64(size)-1, 5), true)
		checkServerRefused(t, onWire(serverOf(boxes...), 9, int64(size), 5))
		checkServerRefused(t, onWire(serverOf(boxes...), 9, -1, 5))
		checkServerRefused(t, onWire(withBox(serverOf(boxes...), size-1, nil), 9, int64(size)-1, 5))
	}
}

func TestNewServer(t *testing.T) {
	for nodes := int64(-5); nodes < 300; nodes++ {
		want := impl.Server{}
		ok := nodes >= 2 && nodes <= 6
		if ok {
			want.Boxes = make([][]impl.Frame, nodes)
		}
		s, told := impl.NewServer(nodes)
		if told != ok || !sameServers(s, want) {
			t.Fatalf("NewServer %d: %v, %+v", nodes, told, s)
		}
		checkServer(t, s, ok)
		if ok {
			checkServedFor(t, s, 1, impl.Server{Boxes: want.Boxes, Now: 1}, nil)
		}
		second, _ := impl.NewServer(nodes)
		checkOwnServer(t, s, nil, func() []int64 { return flatServer(second) })
	}
	for _, nodes := range append([]int64{1 << 20, 1<<32 + 2, 1<<32 + 6, -1<<32 + 2, 258}, farNumbers...) {
		if s, ok := impl.NewServer(nodes); ok || !sameServers(s, impl.Server{}) {
			t.Errorf("NewServer %d: %v, %+v", nodes, ok, s)
		}
	}
}

// One bit of a free wire: who begins, and for how long.
func TestServerTickBegins(t *testing.T) {
	five, ask, six := dataFrame(5, 55, 56), remoteFrame(5, 3), dataFrame(6)
	for _, c := range []struct {
		boxes            [][]impl.Frame
		node, rank, busy int64
	}{
		// None has a frame.
		{[][]impl.Frame{nil, nil}, 0, 0, 0}, {make([][]impl.Frame, 6), 0, 0, 0},
		// One has; the first of its box goes, though another one is shorter.
		{[][]impl.Frame{{five}, nil}, 0, 10, lengthByEyeOf(five) + 2}, {[][]impl.Frame{nil, {five}}, 1, 10, lengthByEyeOf(five) + 2}, {[][]impl.Frame{nil, nil, nil, nil, nil, {five, ask, six}}, 5, 10, lengthByEyeOf(five) + 2},
		// Frames of two ranks at two nodes.
		{[][]impl.Frame{{five}, {six}}, 0, 10, lengthByEyeOf(five) + 2}, {[][]impl.Frame{{six}, {five}}, 1, 10, lengthByEyeOf(five) + 2}, {[][]impl.Frame{nil, {six}, nil, {five}}, 3, 10, lengthByEyeOf(five) + 2},
		{[][]impl.Frame{{six}, nil, {ask}, {dataFrame(7)}}, 2, 11, lengthByEyeOf(ask) + 2}, {[][]impl.Frame{{ask, six}, {five, six}}, 1, 10, lengthByEyeOf(five) + 2},
		// A remote frame and one that is not, of one Id: that one goes first.
		{[][]impl.Frame{{ask}, {five}}, 1, 10, lengthByEyeOf(five) + 2}, {[][]impl.Frame{{five}, {ask}}, 0, 10, lengthByEyeOf(five) + 2}, {[][]impl.Frame{{five, ask}, nil}, 0, 10, lengthByEyeOf(five) + 2},
		// One rank at two nodes: the lesser node is first, whatever the bytes are.
		{[][]impl.Frame{{five}, {five}}, 0, 10, lengthByEyeOf(five) + 2}, {[][]impl.Frame{{five}, {dataFrame(5)}}, 0, 10, lengthByEyeOf(five) + 2}, {[][]impl.Frame{{dataFrame(5)}, {five}}, 0, 10, lengthByEyeOf(dataFrame(5)) + 2},
		{[][]impl.Frame{nil, {six}, {ask}, nil, {remoteFrame(5, 0)}, {ask}}, 2, 11, lengthByEyeOf(ask) + 2}, {[][]impl.Frame{nil, nil, nil, nil, {six}, {six}}, 4, 12, lengthByEyeOf(six) + 2},
		// Rank 0, and the last one.
		{[][]impl.Frame{{five}, {{}}}, 1, 0, 52}, {[][]impl.Frame{nil, {remoteFrame(2047, 8)}}, 1, 4095, lengthByEyeOf(remoteFrame(2047, 8)) + 2},
	} {
		for _, now := range []int64{0, 77, 99999} {
			s := impl.Server{Boxes: c.boxes, Now: now}
			checkServedFor(t, s, 1, impl.Server{Boxes: c.boxes, Busy: c.busy, Node: c.node, Rank: c.rank, Now: now + 1}, nil)
		}
		// At the end nobody begins.
		s := impl.Server{Boxes: c.boxes, Now: 100000}
		checkServedFor(t, s, 1, s, nil)
	}
}

// lengthByEyeOf is how many bits the frame has.
func lengthByEyeOf(f impl.Frame) int64 {
	return int64(len(stuffedByEyeOf(f))) + 10
}

// Each right frame takes its length, and 3 bits more.
func TestServerTickLengths(t *testing.T) {
	for i, f := range rightFrames() {
		boxes := make([][]impl.Frame, 2+i%5)
		node := i % len(boxes)
		boxes[node] = []impl.Frame{f}
		rank := rankByEye(f)
		size := lengthByEyeOf(f)
		checkServe(t, impl.ServerTick, serverOf(boxes...), impl.Server{Boxes: boxes, Busy: size + 2, Node: int64(node), Rank: rank, Now: 1}, nil)
		sent := []impl.Event{{At: size - 1, Node: int64(node), Kind: impl.HpSent, Frame: f}}
		checkServe(t, forBits(size-1), serverOf(boxes...), impl.Server{Boxes: boxes, Busy: 4, Node: int64(node), Rank: rank, Now: size - 1}, nil)
		checkServe(t, forBits(size), serverOf(boxes...), impl.Server{Boxes: make([][]impl.Frame, len(boxes)), Busy: 3, Now: size}, sent)
		checkServe(t, forBits(size+3), serverOf(boxes...), impl.Server{Boxes: make([][]impl.Frame, len(boxes)), Now: size + 3}, sent)
	}
}

// Each Busy: one bit is one less, and where it is 3 then the frame of that rank has been sent.
func TestServerTickEachBusy(t *testing.T) {
	s := serverOf(boxOf(2, 40), boxOf(3, 10, 701), nil)
	for busy := int64(1); busy <= 200; busy++ {
		for _, now := range []int64{0, 500, 99999} {
			s.Now = now
			switch after := (impl.Server{Boxes: s.Boxes, Busy: busy - 1, Now: now + 1}); {
			case busy <= 3:
				checkServedFor(t, onWire(s, busy, 0, 0), 1, after, nil)
			case busy == 4:
				for i, f := range s.Boxes[1] {
					left := withBox(after, 1, slices.Delete(slices.Clone(s.Boxes[1]), i, i+1))
					checkServedFor(t, onWire(s, busy, 1, rankByEye(f)), 1, left, []impl.Event{{At: now, Node: 1, Kind: impl.HpSent, Frame: f}})
				}
			default:
				for _, f := range s.Boxes[1] {
					rank := rankByEye(f)
					checkServedFor(t, onWire(s, busy, 1, rank), 1, onWire(after, busy-1, 1, rank), nil)
				}
			}
		}
		// Nothing is done, and nothing told, at the end.
		s.Now = 100000
		still := onWire(s, busy, 1, 10)
		if busy <= 3 {
			still = onWire(s, busy, 0, 0)
		}
		checkServedFor(t, still, 1, still, nil)
	}
}

// Around the end of a frame, bit by bit: the bit in which it ends begins no other one, nor do the three behind it; the
// next one begins when Busy is 0, and is the least of what waits then.
func TestServerTickAtEndOfFrame(t *testing.T) {
	first, second, third, late := dataFrame(9, 1), dataFrame(20, 2, 3), remoteFrame(20, 2), dataFrame(3)
	for _, arrives := range []int64{-1, 4, 3, 2, 1, 0} {
		s := onWire(serverOf([]impl.Frame{first, third}, []impl.Frame{second}), 5, 0, 18)
		s.Now = 700
		busy, node, rank := []int64{4, 3, 2, 1, 0}, []int64{0, 0, 0, 0, 0}, []int64{18, 0, 0, 0, 0}
		for i := range busy {
			after, events := impl.ServerTick(s)
			if after.Busy != busy[i] || after.Node != node[i] || after.Rank != rank[i] || after.Now != 701+int64(i) {
				t.Fatalf("%+v has become %+v", s, after)
			}
			var want []impl.Event
			if busy[i] == 3 {
				want = []impl.Event{{At: 701, Node: 0, Kind: impl.HpSent, Frame: first}}
			}
			if !sameEvents(events, want) {
				t.Fatalf("%+v: %+v, not %+v", s, events, want)
			}
			s = after
			// It comes in time as long as nobody has begun.
			if s.Busy == arrives {
				s, _ = impl.ServerPut(s, 0, late)
			}
		}
		next, begins := second, onWire(s, lengthByEyeOf(second)+2, 1, 40)
		if arrives >= 0 {
			next, begins = late, onWire(s, lengthByEyeOf(late)+2, 0, 6)
		}
		begins.Now++
		checkServedFor(t, s, 1, begins, nil)
		_, events := impl.ServerFor(s, lengthByEyeOf(next))
		if len(events) != 1 || events[0].At != 705+lengthByEyeOf(next)-1 || !sameFrames(events[0].Frame, next) {
			t.Fatalf("%+v: %+v", s, events)
		}
	}
}

// A frame that was sent leaves all others in its box, and all other boxes, also such as have one of its rank.
func TestServerTickTakesOne(t *testing.T) {
	box := fullBox()
	for i, f := range box {
		for _, node := range []int{0, 1, 3} {
			boxes := [][]impl.Frame{nil, {frameOfRank(rankByEye(f), 99)}, box, box}
			boxes[node] = box
			s := onWire(serverOf(boxes...), 4, int64(node), rankByEye(f))
			want := withBox(onWire(s, 3, 0, 0), node, slices.Delete(fullBox(), i, i+1))
			want.Now = 1
			checkServedFor(t, s, 1, want, []impl.Event{{At: 0, Node: int64(node), Kind: impl.HpSent, Frame: f}})
		}
	}
}

// Of three nodes with two frames each: who sends what when, written out.
func TestServerForByHand(t *testing.T) {
	low, ask, mid, high, last, none := dataFrame(1, 255, 0), remoteFrame(1, 8), dataFrame(700), dataFrame(701, 1, 2, 3, 4, 5, 6, 7, 8), remoteFrame(2047, 0), dataFrame(0, 0, 0)
	s := serverOf([]impl.Frame{low, mid}, []impl.Frame{none, ask}, []impl.Frame{high, last})
	at := timesOf(none, low, ask, mid, high, last)
	sent := func(place int, node int64, f impl.Frame) impl.Event {
		return impl.Event{At: at[place], Node: node, Kind: impl.HpSent, Frame: f}
	}
	want := []impl.Event{sent(0, 1, none), sent(1, 0, low), sent(2, 1, ask), sent(3, 0, mid), sent(4, 2, high), sent(5, 2, last)}
	checkServedFor(t, s, 5000, impl.Server{Boxes: make([][]impl.Frame, 3), Now: 5000}, want)
	// As many bits as it takes, and one less: the last of the events is there, and is not.
	for i, e := range want {
		if _, events := impl.ServerFor(s, e.At); !sameEvents(events, want[:i]) {
			t.Fatalf("in %d bits: %+v", e.At, events)
		}
		if after, events := impl.ServerFor(s, e.At+1); !sameEvents(events, want[:i+1]) || after.Busy != 3 {
			t.Fatalf("in %d bits: %+v, %+v", e.At+1, events, after)
		}
	}
	// One rank at all nodes: node by node.
	f := dataFrame(8, 1)
	at = timesOf(f, f, f)
	all := []impl.Event{sent(0, 0, f), sent(1, 1, f), sent(2, 2, f)}
	checkServedFor(t, serverOf([]impl.Frame{f}, []impl.Frame{f}, []impl.Frame{f}), 1000, impl.Server{Boxes: make([][]impl.Frame, 3), Now: 1000}, all)
}

// busyServer has much to say, and is somewhere in it.
func busyServer(t *testing.T) impl.Server {
	t.Helper()
	s, ok := impl.NewServer(4)
	for i := range int64(60) {
		after, code := impl.ServerPut(s, i%4, frameOfRank(i*67+7, uint32(i)))
		if !ok || code != impl.BxOk {
			t.Fatalf("%v, %d, %+v", ok, code, after)
		}
		s = after
	}
	s, _ = impl.ServerFor(s, 200)
	return s
}

func TestServerForBits(t *testing.T) {
	s := busyServer(t)
	for _, bits := range append([]int64{-1, 0, 5001, 5002, -5000, 10000, 100000}, farNumbers...) {
		if bits <= 0 || bits > 5000 {
			checkServedFor(t, s, bits, s, nil)
		}
	}
	var all []impl.Event
	then := s
	for bits := int64(1); bits <= 5000; bits++ {
		after, events := impl.ServerTick(then)
		then, all = after, append(all, events...)
		if bits == 1 || bits%500 == 37 || bits >= 4999 {
			checkServedFor(t, s, bits, then, all)
		}
	}
	if then.Now != s.Now+5000 || len(all) < 40 {
		t.Fatalf("%+v, with %d events", then, len(all))
	}
	if !slices.IsSortedFunc(all, func(a, b impl.Event) int { return int(a.At - b.At) }) {
		t.Error(all)
	}
	// A server that is still, for as long as may be.
	still, _ := impl.NewServer(2)
	checkServedFor(t, still, 5000, impl.Server{Boxes: still.Boxes, Now: 5000}, nil)
	checkServedFor(t, still, 5001, still, nil)
}

// A run that meets the end on its way stays there; of what would be behind that nothing is told.
func TestServerForMeetsTheEnd(t *testing.T) {
	s := busyServer(t)
	told := map[int]bool{}
	for _, left := range []int64{0, 1, 2, 40, 90, 150, 1000, 4999, 5000, 5001} {
		s.Now = 100000 - left
		for _, bits := range []int64{0, 1, 2, 39, 40, 41, 89, 90, 91, 149, 150, 151, 999, 1000, 1001, 4999, 5000} {
			events := checkServedByEye(t, s, bits)
			after, _ := impl.ServerFor(s, bits)
			if after.Now != min(s.Now+bits, 100000) {
				t.Fatalf("from %d on, %d bits: Now is %d", s.Now, bits, after.Now)
			}
			if slices.ContainsFunc(events, func(e impl.Event) bool { return e.At >= 100000 }) {
				t.Fatal(events)
			}
			told[len(events)] = true
		}
		checkServedFor(t, s, 5001, s, nil)
		checkServedFor(t, s, -1, s, nil)
	}
	if len(told) < 5 {
		t.Error(told)
	}
	// The last bit may be the one in which a frame ends, or the one in which one begins.
	f := dataFrame(5, 1)
	ends := onWire(serverOf([]impl.Frame{f}, nil), 4, 0, 10)
	ends.Now = 99999
	sent := []impl.Event{{At: 99999, Node: 0, Kind: impl.HpSent, Frame: f}}
	checkServedFor(t, ends, 5000, impl.Server{Boxes: make([][]impl.Frame, 2), Busy: 3, Now: 100000}, sent)
	begins := serverOf([]impl.Frame{f}, nil)
	begins.Now = 99999
	checkServedFor(t, begins, 5000, impl.Server{Boxes: begins.Boxes, Busy: lengthByEyeOf(f) + 2, Rank: 10, Now: 100000}, nil)
}

// A run in two parts is as one in one part, wherever it is parted.
func TestServerForInParts(t *testing.T) {
	s := busyServer(t)
	const bits = 700
	whole, events := impl.ServerFor(s, bits)
	for first := int64(0); first <= bits; first++ {
		half, ahead := impl.ServerFor(s, first)
		if !sameEvents(ahead, events[:len(ahead)]) || half.Now != s.Now+first {
			t.Fatalf("parted at %d: %+v", first, ahead)
		}
		checkServedFor(t, half, bits-first, whole, events[len(ahead):])
	}
}

// Any right server, any number of bits: told alike in the other way, and right behind it.
func TestServedAnyServer(t *testing.T) {
	d := dice(14)
	for range 1000 {
		s := someServer(&d)
		checkServer(t, s, true)
		for _, bits := range []int64{1, int64(d.below(400)), int64(d.below(5001))} {
			checkServedByEye(t, s, bits)
			if after, _ := impl.ServerFor(s, bits); !impl.ServerOk(after) {
				t.Fatalf("%+v is not right any more: %+v", s, after)
			}
		}
	}
}

func TestServerPutByHand(t *testing.T) {
	five, other, ask := dataFrame(5, 55), dataFrame(5, 7, 8), remoteFrame(5, 3)
	s := impl.Server{Boxes: [][]impl.Frame{nil, {five}, fullBox(), {five, ask}}, Busy: 60, Node: 3, Rank: 10, Now: 12345}
	for _, c := range []struct {
		node int64
		f    impl.Frame
		box  []impl.Frame
		code int64
	}{
		{0, five, []impl.Frame{five}, impl.BxOk}, {0, impl.Frame{}, []impl.Frame{{}}, impl.BxOk}, {1, ask, []impl.Frame{five, ask}, impl.BxOk}, {1, dataFrame(4), []impl.Frame{dataFrame(4), five}, impl.BxOk},
		// Node 1 has the rank that node 3 says: there it is but one that waits.
		{1, other, []impl.Frame{other}, impl.BxOver}, {1, five, []impl.Frame{five}, impl.BxOver},
		{2, impl.Frame{}, nil, impl.BxFull}, {2, ask, nil, impl.BxFull}, {2, remoteFrame(2047, 1), nil, impl.BxFull}, {2, dataFrame(2, 9), append([]impl.Frame{dataFrame(2, 9)}, fullBox()[1:]...), impl.BxOver},
		// Node 3 says that rank: neither the frame itself nor another one is put there, though there is room.
		{3, five, nil, impl.BxFull}, {3, other, nil, impl.BxFull}, {3, remoteFrame(5, 8), []impl.Frame{five, remoteFrame(5, 8)}, impl.BxOver}, {3, dataFrame(4), []impl.Frame{dataFrame(4), five, ask}, impl.BxOk},
		{0, impl.Frame{Id: -1}, nil, impl.BxBad}, {2, dataFrame(5, 256), nil, impl.BxBad}, {3, impl.Frame{Id: 5, Len: 1}, nil, impl.BxBad}, {3, remoteFrame(5, 9), nil, impl.BxBad},
		// No such node.
		{-1, five, nil, impl.BxBad}, {4, five, nil, impl.BxBad}, {5, five, nil, impl.BxBad}, {6, five, nil, impl.BxBad}, {-1, impl.Frame{Id: -1}, nil, impl.BxBad},
	} {
		want := s
		if c.box != nil {
			want = withBox(s, int(c.node), c.box)
		}
		checkServerPut(t, s, c.node, c.f, want, c.code)
	}
	// A full box whose frame is on the wire.
	full := onWire(serverOf(nil, fullBox()), 4, 1, 34)
	checkServerPut(t, full, 1, dataFrame(17, 9), full, impl.BxFull)
	checkServerPut(t, full, 1, dataFrame(16, 9), withBox(full, 1, slices.Replace(fullBox(), 14, 15, dataFrame(16, 9), fullBox()[15])[:16]), impl.BxOver)
}

// Each size, each Busy, each place: that box alone has it; before the first one and behind the last one there is none.
func TestServerPutEachNode(t *testing.T) {
	f := dataFrame(7, 1, 2)
	for size := 2; size <= 6; size++ {
		for first := range serverBoxes() {
			for _, busy := range []int64{0, 3, 4, 200} {
				s := impl.Server{Boxes: someBoxes(first, size), Busy: busy, Now: []int64{0, 99999, 100000}[first%3]}
				if busy > 3 {
					node := slices.IndexFunc(s.Boxes, func(box []impl.Frame) bool { return len(box) > 0 })
					s = onWire(s, busy, int64(node), rankByEye(s.Boxes[node][0]))
				}
				for node := int64(-2); node < int64(size)+3; node++ {
					want, code := s, int64(impl.BxBad)
					if node >= 0 && node < int64(size) {
						var box []impl.Frame
						box, code = putByEye(s.Boxes[node], f)
						want = withBox(s, int(node), box)
					}
					checkServerPut(t, s, node, f, want, code)
					checkServerPut(t, s, node, impl.Frame{Id: 7, Len: 2}, s, impl.BxBad)
				}
			}
		}
		s := serverOf(make([][]impl.Frame, size)...)
		for _, node := range farNumbers {
			checkServerPut(t, s, node, f, s, impl.BxBad)
			checkServerPut(t, s, node, impl.Frame{Id: -1}, s, impl.BxBad)
		}
	}
}

// At each bit of a frame and of the pause behind it: who says it keeps it; the others have that rank besides.
func TestServerPutWhileSaying(t *testing.T) {
	f, other := dataFrame(5, 1, 2), dataFrame(5, 9)
	s := serverOf(boxOf(12), []impl.Frame{f}, boxOf(10), nil)
	size := lengthByEyeOf(f)
	for at := range size + 4 {
		code, want := int64(impl.BxFull), s
		switch {
		case at == 0:
			code, want = impl.BxOver, withBox(s, 1, []impl.Frame{other})
		case at >= size:
			code, want = impl.BxOk, withBox(s, 1, []impl.Frame{other})
		}
		checkServerPut(t, s, 1, other, want, code)
		for _, node := range []int{0, 2, 3} {
			box, told := putByEye(s.Boxes[node], other)
			checkServerPut(t, s, int64(node), other, withBox(s, node, box), told)
		}
		s, _ = impl.ServerTick(s)
	}
	// A lesser rank that comes to who says another one is not said in its place.
	s = serverOf([]impl.Frame{f}, nil)
	s, _ = impl.ServerTick(s)
	s, code := impl.ServerPut(s, 0, dataFrame(1))
	s, events := impl.ServerFor(s, size-1)
	if code != impl.BxOk || !sameEvents(events, []impl.Event{{At: size - 1, Node: 0, Kind: impl.HpSent, Frame: f}}) || !sameServers(s, impl.Server{Boxes: [][]impl.Frame{{dataFrame(1)}, nil}, Busy: 3, Now: size}) {
		t.Fatalf("%+v, %+v", s, events)
	}
}

// Any right server, any node and any frame.
func TestServerPutAnyServer(t *testing.T) {
	d := dice(41)
	codes, said := map[int64]int{}, 0
	for range 3000 {
		s := someServer(&d)
		f := frameOfRank(int64(d.below(40)), uint32(d))
		node := int64(d.below(len(s.Boxes)+2) - 1)
		switch {
		case d.below(3) == 0 && s.Busy > 3:
			node, f = s.Node, frameOfRank(s.Rank, uint32(d))
			said++
		case d.below(8) == 0:
			f.Id += 2048
		}
		want, code := serverPutByEye(s, node, f)
		codes[code]++
		checkServerPut(t, s, node, f, want, code)
		if after, _ := impl.ServerPut(s, node, f); !impl.ServerOk(after) {
			t.Fatalf("with %+v at %d %+v is not right any more: %+v", f, node, s, after)
		}
	}
	for code := range int64(4) {
		if codes[code] < 100 || said < 100 {
			t.Error(codes, said)
		}
	}
}

// One thing of a right server is wrong: each call answers what is fixed for that.
func TestServerWrongFields(t *testing.T) {
	d := dice(140)
	spoil := []func(s *impl.Server){
		func(s *impl.Server) { s.Busy = -1 }, func(s *impl.Server) { s.Busy += 201 }, func(s *impl.Server) { s.Now = -1 }, func(s *impl.Server) { s.Now += 100001 },
		func(s *impl.Server) { s.Node -= 6 }, func(s *impl.Server) { s.Node += 6 }, func(s *impl.Server) { s.Rank = -1 }, func(s *impl.Server) { s.Rank += 4096 },
		func(s *impl.Server) { s.Boxes = s.Boxes[:1] }, func(s *impl.Server) { s.Boxes = nil }, func(s *impl.Server) { s.Boxes = slices.Concat(s.Boxes, make([][]impl.Frame, 5)) },
		func(s *impl.Server) { *s = withBox(*s, len(s.Boxes)-1, []impl.Frame{{Id: -1}}) }, func(s *impl.Server) { *s = withBox(*s, 0, []impl.Frame{{}, {}}) }, func(s *impl.Server) { *s = withBox(*s, 1, boxOf(upTo(0, 16)...)) },
	}
	for range 12 {
		s := someServer(&d)
		for _, wrong := range spoil {
			other := s
			wrong(&other)
			checkServerRefused(t, other)
			for _, number := range farNumbers {
				checkServedFor(t, other, number, impl.Server{}, nil)
				checkServerPut(t, other, number, dataFrame(1), impl.Server{}, impl.BxBad)
			}
		}
	}
}
