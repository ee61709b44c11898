package tests

import (
	"slices"
	"testing"

	"loop.example/g00753/impl"
)

// pair is a played bus without filters and without flips, and a server in which the same frames are put at the same bits.
type pair struct {
	b    impl.Bus
	s    impl.Server
	sent []impl.Event
}

func newPair(t *testing.T, nodes int) *pair {
	t.Helper()
	s, ok := impl.NewServer(int64(nodes))
	if !ok {
		t.Fatalf("there is no server of %d nodes", nodes)
	}
	return &pair{b: newBus(t, nodes), s: s}
}

// put fails where the codes, or the boxes, are not alike.
func (p *pair) put(t *testing.T, node int64, f impl.Frame) int64 {
	t.Helper()
	b, code := impl.QueuedAt(p.b, node, f)
	s, told := impl.ServerPut(p.s, node, f)
	if code != told {
		t.Fatalf("%+v put at %d of\n%+v: code %d, and on the bus %+v %d", f, node, p.s, told, p.b, code)
	}
	p.b, p.s = b, s
	p.alike(t)
	return code
}

func (p *pair) alike(t *testing.T) {
	t.Helper()
	if p.b.Now != p.s.Now || !impl.BusOk(p.b) || !impl.ServerOk(p.s) {
		t.Fatalf("Now is %d, and on the bus %d; or one is not right:\n%+v,\n%+v", p.s.Now, p.b.Now, p.s, p.b)
	}
	for i, n := range p.b.Nodes {
		if !slices.Equal(flatAll(n.Box), flatAll(p.s.Boxes[i])) {
			t.Fatalf("at %d the box of node %d has %+v, and on the bus %+v", p.s.Now, i, p.s.Boxes[i], n.Box)
		}
	}
}

// run plays both for so many bits; it fails where the server does not tell what the bus tells as sent, and when.
func (p *pair) run(t *testing.T, bits int64) []impl.Event {
	t.Helper()
	var sent, events, told []impl.Event
	if bits == 1 {
		p.b, events = impl.Ticked(p.b, nil)
		p.s, told = impl.ServerTick(p.s)
	} else {
		p.b, events = impl.RunFor(p.b, bits)
		p.s, told = impl.ServerFor(p.s, bits)
	}
	for _, e := range events {
		switch e.Kind {
		case impl.HpSent:
			sent = append(sent, e)
		case impl.HpErr, impl.HpOff, impl.HpBack:
			t.Fatalf("on a wire without flips %+v is told", e)
		}
	}
	if !sameEvents(told, sent) {
		t.Fatalf("up to %d the server tells %+v, and the bus %+v", p.s.Now, told, sent)
	}
	p.sent = append(p.sent, told...)
	p.alike(t)
	return told
}

// runOut plays both till nothing waits any more, and for as long as 10 bits behind that.
func (p *pair) runOut(t *testing.T) {
	t.Helper()
	for range 100 {
		p.run(t, 150)
		if !slices.ContainsFunc(p.s.Boxes, func(box []impl.Frame) bool { return len(box) > 0 }) {
			p.run(t, 10)
			return
		}
	}
	t.Fatalf("there still waits %+v", p.s.Boxes)
}

// Promise 14: buses of 2 to 6 nodes, bit by bit; frames come in whatever bits, also while another one is on the wire, no
// rank at two nodes and none twice.
func TestPromise14(t *testing.T) {
	meanwhile, refused, sent := 0, 0, 0
	for seed := range 40 {
		d := dice(1400 + seed)
		nodes := 2 + seed%5
		p := newPair(t, nodes)
		// Some have little to say, some more than the boxes hold.
		ranks := ranksOf(&d, []int{2, 9, 30, 60, 120}[seed/8])
		rare := max(3000/(2*len(ranks)), 1)
		for range 3000 {
			for len(ranks) > 0 && d.below(rare) == 0 {
				if p.s.Busy > 3 {
					meanwhile++
				}
				if p.put(t, ranks[0]%int64(nodes), frameOfRank(ranks[0], uint32(d))) == impl.BxFull {
					refused++
				}
				ranks = ranks[1:]
			}
			p.run(t, 1)
		}
		sent += len(p.sent)
	}
	if meanwhile < 500 || refused < 5 || sent < 700 {
		t.Error(meanwhile, refused, sent)
	}
}

// Promise 14, all the way up to the last bit there is, many bits at once: both stay at 100000.
func TestPromise14ToTheEnd(t *testing.T) {
	for nodes := 2; nodes <= 6; nodes++ {
		d := dice(nodes)
		p := newPair(t, nodes)
		ranks := ranksOf(&d, 2000)
		for p.s.Now < 100000 {
			for range d.below(3) {
				p.put(t, ranks[0]%int64(nodes), frameOfRank(ranks[0], uint32(d)))
				ranks = append(ranks[1:], ranks[0])
			}
			p.run(t, int64(d.below(400)))
		}
		if len(p.sent) < 300 || p.b.Now != 100000 {
			t.Errorf("of %d nodes only %d frames were sent up to %d", nodes, len(p.sent), p.b.Now)
		}
		p.put(t, 0, dataFrame(0))
		for _, bits := range []int64{0, 1, 2, 5000, 5001, -1} {
			p.run(t, bits)
		}
	}
}

// Promise 14: two frames wait at each node from the first bit on, with ranks that are far apart or next to one another.
func TestPromise14TwoAtEach(t *testing.T) {
	for nodes := 2; nodes <= 6; nodes++ {
		for seed := range 40 {
			d := dice(seed*7 + nodes)
			ranks := ranksOf(&d, 2*nodes)
			if seed%2 == 0 {
				first := int64(d.below(4096 - 2*nodes))
				ranks = upTo(first, first+2*int64(nodes)-1)
				slices.Reverse(ranks[seed%3 : nodes])
			}
			p := newPair(t, nodes)
			for i, rank := range ranks {
				if code := p.put(t, int64((i+seed)%nodes), frameOfRank(rank, uint32(d)+uint32(i))); code != impl.BxOk {
					t.Fatalf("rank %d of %v: code %d", rank, ranks, code)
				}
			}
			p.runOut(t)
			var said []int64
			for _, e := range p.sent {
				said = append(said, rankByEye(e.Frame))
			}
			slices.Sort(ranks)
			if !slices.Equal(said, ranks) {
				t.Fatalf("%v were sent, not %v", said, ranks)
			}
		}
	}
}

// Promise 14: a frame comes at each bit of another one and of the pause behind that, with a lesser or a greater rank, at
// that node or another one.
func TestPromise14Meanwhile(t *testing.T) {
	first := dataFrame(700, 1, 2)
	size := lengthByEyeOf(first)
	for _, f := range []impl.Frame{dataFrame(699, 9), remoteFrame(699, 4), remoteFrame(700, 8), dataFrame(701), {}, remoteFrame(2047, 0)} {
		for _, node := range []int64{1, 0, 2} {
			for at := range size + 8 {
				p := newPair(t, 3)
				p.put(t, 1, first)
				p.run(t, at)
				p.put(t, node, f)
				p.runOut(t)
				// Behind the first one, and behind the pause; or at once where it is there by then.
				begins := max(size+3, at)
				want := []impl.Event{{At: size - 1, Node: 1, Kind: impl.HpSent, Frame: first}, {At: begins + lengthByEyeOf(f) - 1, Node: node, Kind: impl.HpSent, Frame: f}}
				if at == 0 && rankByEye(f) < rankByEye(first) {
					want = []impl.Event{{At: lengthByEyeOf(f) - 1, Node: node, Kind: impl.HpSent, Frame: f}, {At: lengthByEyeOf(f) + 3 + size - 1, Node: 1, Kind: impl.HpSent, Frame: first}}
				}
				if !sameEvents(p.sent, want) {
					t.Fatalf("%+v put at %d at bit %d: %+v, not %+v", f, node, at, p.sent, want)
				}
			}
		}
	}
}

// Promise 14 of each right frame, alone on the wire, and in the contest with the one of the next rank.
func TestPromise14EachFrame(t *testing.T) {
	for i, f := range rightFrames() {
		nodes := int64(2 + i%5)
		p := newPair(t, int(nodes))
		p.run(t, int64(i%7))
		begins := p.s.Now
		p.put(t, int64(i)%nodes, f)
		if rank := rankByEye(f); i%3 == 0 && rank < 4095 {
			p.put(t, int64(i+1)%nodes, frameOfRank(rank+1, uint32(i)))
		}
		p.runOut(t)
		if e := p.sent[0]; e.At != begins+lengthByEyeOf(f)-1 || e.Node != int64(i)%nodes || !sameFrames(e.Frame, f) {
			t.Fatalf("%+v was sent as %+v", f, e)
		}
	}
}

// Ranks that are put again and again at their node: codes, boxes and what is sent are alike, as long as none is put at a
// node that just loses the contest with it.
func TestPromise14Again(t *testing.T) {
	codes := map[int64]int{}
	for seed := range 25 {
		d := dice(4100 + seed)
		nodes := 2 + seed%5
		p := newPair(t, nodes)
		ranks := ranksOf(&d, []int{3, 12, 40, 120}[seed%4])
		for range 600 {
			rank := ranks[d.below(len(ranks))]
			node := rank % int64(nodes)
			// On the bus who will lose sends, too, till it has lost.
			loses := impl.Sending(p.b.Nodes[node]) == rank && (p.s.Busy <= 3 || p.s.Node != node || p.s.Rank != rank)
			if !loses {
				codes[p.put(t, node, frameOfRank(rank, uint32(d)))]++
			}
			p.run(t, int64(d.below(20)))
		}
	}
	if len(codes) != 3 || codes[impl.BxFull] < 100 || codes[impl.BxOver] < 100 || codes[impl.BxOk] < 100 {
		t.Error(codes)
	}
}

// Where a node is about to lose the contest chapter 12 keeps what it says, and the server knows of the winner alone: that
// rank is BxFull on the bus, and BxOver at the server. What is sent when stays alike but for the bytes.
func TestPutAtWhoLoses(t *testing.T) {
	low, high, other := dataFrame(1), dataFrame(1023, 1), dataFrame(1023, 2)
	p := newPair(t, 2)
	p.put(t, 0, low)
	p.put(t, 1, high)
	p.run(t, 2)
	b, code := impl.QueuedAt(p.b, 1, other)
	s, told := impl.ServerPut(p.s, 1, other)
	if code != impl.BxFull || !sameBuses(b, p.b) || told != impl.BxOver || !sameServers(s, withBox(p.s, 1, []impl.Frame{other})) {
		t.Fatalf("code %d, and on the bus %d: %+v, %+v", told, code, s, b)
	}
	// Two bits later it has lost: then it is put over on the bus, too.
	p.run(t, 2)
	if p.put(t, 1, other) != impl.BxOver {
		t.Fatalf("%+v", p.b)
	}
	p.runOut(t)
}

// Promise 20, for this layer: every function answers at every argument and none panics; no argument is written into,
// nor the spare room behind it.
func TestServersAnswerAtAll(t *testing.T) {
	numbers := append([]int64{-1, 0, 1, 2, 3, 4, 5, 6, 7, 100, 200, 201, 5000, 5001, 99999, 100000, 100001}, farNumbers...)
	frames := slices.Concat(rightFrames(), wrongFrames(), wrongEach(), []impl.Frame{{Len: 8, Data: make([]int64, 1000)}})
	boxes := slices.Concat(serverBoxes(), wrongBoxes(), [][]impl.Frame{nil, slices.Repeat([]impl.Frame{{}}, 3000)})
	d := dice(2014)
	for range 2000 {
		number := func() int64 { return numbers[d.below(len(numbers))] }
		s := someServer(&d)
		for range d.below(3) {
			switch d.below(6) {
			case 0:
				s.Busy = number()
			case 1:
				s.Node = number()
			case 2:
				s.Rank = number()
			case 3:
				s.Now = number()
			case 4:
				s = withBox(s, d.below(len(s.Boxes)), boxes[d.below(len(boxes))])
			case 5:
				s.Boxes = append(slices.Clone(s.Boxes[1:]), boxes[:d.below(len(boxes))]...)
			}
		}
		given, held := serverWithRoom(s)
		f, room := withRoom(frames[d.below(len(frames))])
		before, roomBefore := held(), slices.Clone(room)
		mustAnswer(t, func() {
			impl.ServerOk(given)
			impl.NewServer(number())
			impl.ServerTick(given)
			impl.ServerFor(given, number()%200)
			impl.ServerFor(given, number())
			impl.ServerPut(given, number(), f)
			impl.ServerPut(given, int64(d.below(8)-1), f)
		}, s, f)
		if !slices.Equal(held(), before) || !slices.Equal(room, roomBefore) {
			t.Fatalf("%+v or %+v, or the room behind them, is changed", s, f)
		}
	}
	for range 300 {
		number := numbers[d.below(len(numbers))]
		zero := impl.Server{Busy: number, Node: numbers[d.below(len(numbers))], Rank: number, Now: number}
		mustAnswer(t, func() {
			impl.ServerOk(zero)
			impl.ServerTick(zero)
			impl.ServerFor(zero, number)
			impl.ServerPut(zero, number, impl.Frame{})
		}, zero)
		checkServerRefused(t, zero)
	}
}

// Promise 20, for this layer: an answer is new memory also where the boxes of the server, and what is put in, share memory
// with one another; and where many bits lie between.
func TestServersAreNew(t *testing.T) {
	shared := []int64{1, 2, 3, 4, 5, 6, 7, 8, 9}
	of := func(id int64, size int) impl.Frame { return impl.Frame{Id: id, Len: int64(size), Data: shared[:size]} }
	box := []impl.Frame{of(1, 8), of(2, 0), of(3, 4), of(4, 8), {}}[:4]
	one := serverOf(box, box, box[:2], box[:0])
	for _, s := range []impl.Server{one, onWire(one, 4, 1, 6), onWire(one, 60, 0, 8), onWire(one, 3, 0, 0), {Boxes: one.Boxes, Now: 99999}, {Boxes: one.Boxes, Now: 100000}} {
		held := func() []int64 { return slices.Concat(shared, flatAll(box[:5]), flatServer(s)) }
		before := held()
		answers := func() (servers []impl.Server, events [][]impl.Event) {
			after, told := impl.ServerTick(s)
			servers, events = append(servers, after), append(events, told)
			for _, bits := range []int64{-1, 0, 1, 130, 2000, 5000, 5001} {
				after, told := impl.ServerFor(s, bits)
				servers, events = append(servers, after), append(events, told)
			}
			for _, node := range []int64{-1, 0, 1, 3, 9} {
				for _, g := range []impl.Frame{of(0, 8), of(3, 4), of(4, 8), {Id: -1, Data: shared}} {
					after, _ := impl.ServerPut(s, node, g)
					servers, events = append(servers, after), append(events, nil)
				}
			}
			return servers, events
		}
		servers, events := answers()
		others, told := answers()
		for i, after := range servers {
			if !sameServers(after, others[i]) || !sameEvents(events[i], told[i]) {
				t.Fatalf("asked again, %+v is told, not %+v", others[i], after)
			}
			checkOwnServer(t, after, events[i], held, func() []int64 {
				var list []int64
				for k := range others {
					list = append(append(list, flatServer(others[k])...), flatEvents(told[k])...)
				}
				return list
			})
		}
		if !slices.Equal(held(), before) {
			t.Fatal("an argument is written into")
		}
	}
}

// Promise 20, for this layer: nothing is kept from call to call; another call tells what was changed in between.
func TestServersKeepNothing(t *testing.T) {
	f := dataFrame(5, 1, 2)
	s := serverOf([]impl.Frame{f}, nil)
	for range 3 {
		after, events := impl.ServerFor(s, 200)
		if len(events) != 1 || len(after.Boxes[0]) != 0 || len(s.Boxes[0]) != 1 {
			t.Fatalf("%+v: %+v", after, events)
		}
		f.Data[1] = 77
		_, told := impl.ServerFor(s, 200)
		f.Data[1] = 2
		if told[0].Frame.Data[1] != 77 || events[0].Frame.Data[1] != 2 {
			t.Fatalf("what was told has become %+v, or %+v", told, events)
		}
		checkServedByEye(t, s, 200)
		f.Data[1] = 256
		checkServerRefused(t, s)
		f.Data[1] = 2
		checkServer(t, s, true)
	}
}
