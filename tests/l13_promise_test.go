package tests

import (
	"slices"
	"testing"

	"loop.example/g00753/impl"
)

// ledger is a played bus without flips, told by whole frames and not by bits: who says what, and when it has been said.
type ledger struct {
	boxes, fifos [][]impl.Frame
	filters      [][]impl.Filter
	// From begin to end somebody says this; the next one may begin 4 bits behind the end.
	sender     int
	said       impl.Frame
	begin, end int64
	// What each of them begins to say, and the bit up to which it does: the one at which it has lost the contest.
	saying []impl.Frame
	upTo   []int64
	now    int64
}

func newLedger(filters [][]impl.Filter) *ledger {
	l := &ledger{boxes: make([][]impl.Frame, len(filters)), fifos: make([][]impl.Frame, len(filters)), filters: filters, sender: -1, end: -4}
	l.saying, l.upTo = make([]impl.Frame, len(filters)), make([]int64, len(filters))
	return l
}

// choose lets the one of the least rank begin, if there is any.
func (l *ledger) choose() {
	for i, box := range l.boxes {
		if len(box) > 0 && (l.sender < 0 || rankByEye(box[0]) < rankByEye(l.said)) {
			l.sender, l.said = i, box[0]
			l.begin, l.end = l.now, l.now+int64(len(stuffedByEyeOf(box[0])))+9
		}
	}
	for i, box := range l.boxes {
		switch {
		case i == l.sender:
			l.saying[i], l.upTo[i] = l.said, l.end
		case len(box) > 0:
			l.saying[i], l.upTo[i] = box[0], l.begin+int64(partByEye(stuffedByEyeOf(box[0]), stuffedByEyeOf(l.said)))
		default:
			l.upTo[i] = -1
		}
	}
}

// hear is what the others tell one bit ahead of the end.
func (l *ledger) hear() []impl.Event {
	var events []impl.Event
	for i := range l.boxes {
		if i == l.sender || !passesByEye(l.filters[i], l.said.Id) {
			continue
		}
		kind := int64(impl.HpFull)
		if len(l.fifos[i]) < 32 {
			kind = impl.HpGot
			l.fifos[i] = append(l.fifos[i], l.said)
		}
		events = append(events, impl.Event{At: l.now, Node: int64(i), Kind: kind, Frame: l.said})
	}
	return events
}

// bit is what must be told at the next bit.
func (l *ledger) bit() []impl.Event {
	var events []impl.Event
	if l.sender < 0 && l.now >= l.end+4 {
		l.choose()
	}
	switch {
	case l.sender >= 0 && l.now == l.end-1:
		events = l.hear()
	case l.sender >= 0 && l.now == l.end:
		events = []impl.Event{{At: l.now, Node: int64(l.sender), Kind: impl.HpSent, Frame: l.said}}
		l.boxes[l.sender] = takenByEye(l.boxes[l.sender], rankByEye(l.said))
		l.sender = -1
	}
	l.now++
	return events
}

// queue is the code of a frame that is right; what is being said stays.
func (l *ledger) queue(node int, f impl.Frame) int64 {
	if l.sender >= 0 && l.now <= l.upTo[node] && rankByEye(f) == rankByEye(l.saying[node]) {
		return impl.BxFull
	}
	box, code := putByEye(l.boxes[node], f)
	l.boxes[node] = box
	return code
}

// someFilters are filters that let through all, much, little or nothing that is said in these tests.
func someFilters(d *dice) []impl.Filter {
	return [][]impl.Filter{nil, nil, {forAll}, {{Mask: 1, Code: 1}}, {forOne(7), {Mask: 6, Code: 2}}, {forOne(2047)}}[d.below(6)]
}

// ranksOf are so many ranks without an order, no two of them alike.
func ranksOf(d *dice, count int) []int64 {
	ranks := upTo(0, 4095)
	for i := range count {
		k := i + d.below(len(ranks)-i)
		ranks[i], ranks[k] = ranks[k], ranks[i]
	}
	return ranks[:count]
}

// checkSaid fails where of all that was told not each frame that was sent was heard one bit ahead of it by each other node
// whose filters let it through, once, and by no one else; and where anybody broke off.
func checkSaid(t *testing.T, filters [][]impl.Filter, events []impl.Event) {
	t.Helper()
	heardBy := make([]int, len(filters))
	for i := 0; i < len(events); i++ {
		first := i
		for i < len(events) && (events[i].Kind == impl.HpGot || events[i].Kind == impl.HpFull) {
			i++
		}
		if i == len(events) {
			return
		}
		sent := events[i]
		if sent.Kind != impl.HpSent {
			t.Fatalf("on a wire without flips somebody tells %+v", sent)
		}
		var want []impl.Event
		for node, list := range filters {
			if int64(node) == sent.Node || !passesByEye(list, sent.Frame.Id) {
				continue
			}
			kind := int64(impl.HpGot)
			if heardBy[node] == 32 {
				kind = impl.HpFull
			} else {
				heardBy[node]++
			}
			want = append(want, impl.Event{At: sent.At - 1, Node: int64(node), Kind: kind, Frame: sent.Frame})
		}
		if !sameEvents(events[first:i], want) {
			t.Fatalf("%+v was heard as %+v, not %+v", sent, events[first:i], want)
		}
	}
}

// checkLedger fails where the bus is not as the ledger tells.
func checkLedger(t *testing.T, b impl.Bus, l *ledger) {
	t.Helper()
	if b.Now != l.now || !impl.BusOk(b) {
		t.Fatalf("Now is %d, not %d; or it is not right: %+v", b.Now, l.now, b)
	}
	for i, n := range b.Nodes {
		if !slices.Equal(flatAll(n.Box), flatAll(l.boxes[i])) || !slices.Equal(flatAll(n.Fifo), flatAll(l.fifos[i])) || n.Count != (impl.Count{}) {
			t.Fatalf("at %d node %d is %+v, not with %+v and %+v", b.Now, i, n, l.boxes[i], l.fifos[i])
		}
		if n.Phase > impl.PhTail && n.Phase != impl.PhInter {
			t.Fatalf("at %d node %d is %+v", b.Now, i, n)
		}
	}
}

// playWithoutFlips plays a bus and its ledger for so many bits, and queues these ranks, each at a node of its own choice,
// in whatever bits; where again is true, some of them once more at the same node. It answers all that is told.
func playWithoutFlips(t *testing.T, d *dice, filters [][]impl.Filter, ranks []int64, bits int, again bool) []impl.Event {
	t.Helper()
	b, ok := impl.NewBus(filters)
	if !ok {
		t.Fatalf("there is no bus of %+v", filters)
	}
	l := newLedger(filters)
	queue := func(node int, f impl.Frame) int64 {
		after, code := impl.QueuedAt(b, int64(node), f)
		if want := l.queue(node, f); code != want {
			t.Fatalf("at %d %+v queued at %d: code %d, not %d", b.Now, f, node, code, want)
		}
		b = after
		checkLedger(t, b, l)
		return code
	}
	var all []impl.Event
	next, rare := 0, max(bits/(2*len(ranks)+1), 1)
	for range bits {
		for next < len(ranks) && (d.below(rare) == 0 || next < len(filters)) {
			queue(int(ranks[next])%len(filters), frameOfRank(ranks[next], uint32(*d)))
			next++
		}
		if again && next > 0 && d.below(60) == 0 {
			rank := ranks[d.below(next)]
			queue(int(rank)%len(filters), frameOfRank(rank, uint32(*d)))
		}
		after, events := impl.Ticked(b, nil)
		if want := l.bit(); !sameEvents(events, want) {
			t.Fatalf("at %d %+v is told, not %+v", b.Now, events, want)
		}
		b, all = after, append(all, events...)
		if len(events) > 0 {
			checkLedger(t, b, l)
		}
	}
	checkLedger(t, b, l)
	checkSaid(t, filters, all)
	return all
}

// Promise 13, without flips: buses of 2 to 6 nodes, each with filters of its own, frames queued in whatever order.
func TestPromise13WithoutFlips(t *testing.T) {
	kinds := map[int64]int{}
	for seed := range 40 {
		d := dice(seed)
		filters := make([][]impl.Filter, 2+seed%5)
		for i := range filters {
			filters[i] = someFilters(&d)
		}
		// Some have little to say, some more than the boxes hold.
		ranks := ranksOf(&d, []int{2, 9, 30, 60, 120}[seed/8])
		for _, e := range playWithoutFlips(t, &d, filters, ranks, 4000, seed%3 == 0) {
			kinds[e.Kind]++
		}
	}
	if kinds[impl.HpSent] < 700 || kinds[impl.HpGot] < 700 || kinds[impl.HpFull] < 10 || len(kinds) != 3 {
		t.Error(kinds)
	}
}

// Ranks that are next to one another, and such that part at the last bit of the contest only; all wait at once.
func TestPromise13CloseRanks(t *testing.T) {
	for first := int64(0); first < 4096; first += 311 {
		for nodes := 2; nodes <= 6; nodes++ {
			ranks := upTo(first, min(first+int64(2*nodes)-1, 4095))
			slices.Reverse(ranks)
			d := dice(first)
			playWithoutFlips(t, &d, make([][]impl.Filter, nodes), ranks, 1500, false)
		}
	}
}

// All the bits at once: RunFor tells what the ledger tells.
func TestPromise13RunFor(t *testing.T) {
	d := dice(99)
	for nodes := 2; nodes <= 6; nodes++ {
		filters := make([][]impl.Filter, nodes)
		for i := range filters {
			filters[i] = someFilters(&d)
		}
		b, _ := impl.NewBus(filters)
		l := newLedger(filters)
		var all, want []impl.Event
		for range 4 {
			for _, rank := range ranksOf(&d, 12*nodes) {
				f := frameOfRank(rank, uint32(d))
				after, code := impl.QueuedAt(b, rank%int64(nodes), f)
				if code != l.queue(int(rank)%nodes, f) {
					t.Fatalf("%+v queued at %+v: code %d", f, b, code)
				}
				b = after
			}
			bits := 5000 - d.below(300)
			after, events := impl.RunFor(b, int64(bits))
			b, all = after, append(all, events...)
			for range bits {
				want = append(want, l.bit()...)
			}
			if !sameEvents(all, want) {
				t.Fatalf("%+v is told, not %+v", all, want)
			}
			checkLedger(t, b, l)
		}
		checkSaid(t, filters, all)
	}
}

// Where two nodes do queue one rank they say it at once: with other bytes the one that says 1 breaks off, and the flag is
// seen by all; with the same bytes nobody who hears is left between two nodes, but a third one answers.
func TestOneRankTwice(t *testing.T) {
	f, g := dataFrame(1365, 7), dataFrame(1365, 6)
	kindsOf := func(b impl.Bus, bits int64) (impl.Bus, []int64) {
		after, events := impl.RunFor(b, bits)
		var kinds []int64
		for _, e := range events {
			kinds = append(kinds, e.Node*10+e.Kind)
		}
		return after, kinds
	}
	// f says 1 in its last bit, where g says 0.
	b := queued(t, queued(t, newBus(t, 3), 0, f), 1, g)
	part := int64(partByEye(stuffedByEyeOf(f), stuffedByEyeOf(g)))
	if _, events := impl.RunFor(b, part+1); !sameEvents(events, []impl.Event{{At: part, Node: 0, Kind: impl.HpErr}}) {
		t.Errorf("they part at %d: %+v", part, events)
	}
	// The same frame at both: without a third one there is no answer.
	size := int64(len(impl.WireOf(f)))
	alone := queued(t, queued(t, newBus(t, 2), 0, f), 1, f)
	if _, kinds := kindsOf(alone, size); !slices.Equal(kinds, []int64{impl.HpErr, 10 + impl.HpErr}) {
		t.Errorf("of two that say the same: %v", kinds)
	}
	b = queued(t, queued(t, newBus(t, 3), 0, f), 2, f)
	if after, kinds := kindsOf(b, size); !slices.Equal(kinds, []int64{10 + impl.HpGot, impl.HpSent, 20 + impl.HpSent}) || len(after.Nodes[0].Box)+len(after.Nodes[2].Box) > 0 {
		t.Errorf("of two that say the same to a third one: %v, %+v", kinds, after)
	}
}

// flipsFor is a way in which flips come about for a while: none; few; many; one node alone, often; all at once, now and
// then; and most of what a node says behind its number.
func flipsFor(d *dice, nodes, way int) func(b impl.Bus) []bool {
	one := d.below(nodes)
	return func(b impl.Bus) []bool {
		flips := make([]bool, nodes+d.below(3)-1)
		for i := range flips {
			switch way {
			case 1:
				flips[i] = d.below(150) == 0
			case 2:
				flips[i] = d.below(4) == 0
			case 3:
				flips[i] = i == one && d.below(25) == 0
			case 4:
				flips[i] = i < nodes && b.Nodes[i].Tx && len(b.Nodes[i].Got) > 12 && d.below(9) > 0
			}
		}
		if way == 5 && d.below(40) == 0 {
			flips = slices.Repeat([]bool{true}, nodes)
		}
		return flips
	}
}

// keeping is a played bus, and what must be in the boxes of its nodes.
type keeping struct {
	b     impl.Bus
	boxes [][]impl.Frame
	kinds map[int64]int
}

func (k *keeping) queue(t *testing.T, node int64, f impl.Frame) {
	t.Helper()
	box, want := putByEye(k.boxes[node], f)
	if rankByEye(f) == sendingByEye(k.b.Nodes[node]) {
		box, want = k.boxes[node], impl.BxFull
	}
	after, code := impl.QueuedAt(k.b, node, f)
	if code != want {
		t.Fatalf("%+v queued at %d of %+v: code %d, not %d", f, node, k.b, code, want)
	}
	k.boxes[node] = box
	k.check(t, after, nil)
}

// check goes on with this bus; it fails where something was sent that was not in the box, and where of all else anything
// is not in it.
func (k *keeping) check(t *testing.T, after impl.Bus, events []impl.Event) {
	t.Helper()
	for _, e := range events {
		k.kinds[e.Kind]++
		if e.Kind != impl.HpSent {
			continue
		}
		box := k.boxes[e.Node]
		if !slices.ContainsFunc(box, func(f impl.Frame) bool { return sameFrames(f, e.Frame) }) {
			t.Fatalf("%+v is told, but in the box there are %+v", e, box)
		}
		k.boxes[e.Node] = takenByEye(box, rankByEye(e.Frame))
	}
	for i, n := range after.Nodes {
		if len(n.Box) != len(k.boxes[i]) || (len(events) > 0 || after.Now%16 == 0) && !slices.Equal(flatAll(n.Box), flatAll(k.boxes[i])) {
			t.Fatalf("at %d the box of node %d has %+v, not %+v", after.Now, i, n.Box, k.boxes[i])
		}
	}
	k.b = after
}

// Promise 13, with flips: whatever is flipped, what was queued is in the box of its node till it has been sent; and once
// nothing is flipped any more, all of it is sent.
func TestPromise13WithFlips(t *testing.T) {
	kinds := map[int64]int{}
	for seed := range 40 {
		d := dice(seed)
		nodes := 2 + seed%5
		k := keeping{b: newBus(t, nodes), boxes: make([][]impl.Frame, nodes), kinds: kinds}
		ranks := ranksOf(&d, 60)
		for part := range 10 {
			way := (part*(1+seed%5) + seed) % 6
			if seed%3 == 2 && part > 0 {
				// Who fails on and on is off at last.
				way = 4
			}
			flips := flipsFor(&d, nodes, way)
			for range 300 {
				if d.below(40) == 0 {
					rank := ranks[d.below(len(ranks))]
					k.queue(t, rank%int64(nodes), frameOfRank(rank, uint32(d)))
				}
				after, events := impl.Ticked(k.b, flips(k.b))
				k.check(t, after, events)
			}
		}
		for range 3 {
			after, events := impl.RunFor(k.b, 5000)
			k.check(t, after, events)
		}
		for i, n := range k.b.Nodes {
			if len(n.Box) > 0 || n.Phase != impl.PhIdle {
				t.Fatalf("seed %d: without flips node %d has not come to an end: %+v", seed, i, n)
			}
		}
	}
	for kind := int64(1); kind <= 6; kind++ {
		if kinds[kind] < 5 {
			t.Errorf("only %d have told %d", kinds[kind], kind)
		}
	}
}

// A played bus with flips is told alike in the other way, and each bit leaves it right.
func TestPlayedBusesByEye(t *testing.T) {
	for seed := range 10 {
		d := dice(seed)
		nodes := 2 + seed%5
		b := newBus(t, nodes)
		ranks := ranksOf(&d, 40)
		for part := range 5 {
			flips := flipsFor(&d, nodes, (part+seed)%6)
			for range 60 {
				if d.below(20) == 0 {
					rank := ranks[d.below(len(ranks))]
					node, f := int64(d.below(nodes)), frameOfRank(rank, uint32(d))
					want, code := queuedAtByEye(b, node, f)
					after, told := impl.QueuedAt(b, node, f)
					if told != code || !sameBuses(after, want) {
						t.Fatalf("%+v queued at %d of %+v: code %d, %+v", f, node, b, told, after)
					}
					b = after
				}
				turns := flips(b)
				want, events := tickedByEye(b, turns)
				after, told := impl.Ticked(b, turns)
				if !sameBuses(after, want) || !sameEvents(told, events) || !impl.BusOk(after) {
					t.Fatalf("%+v with %v:\n%+v, %+v, not\n%+v, %+v", b, turns, after, told, want, events)
				}
				b = after
			}
		}
	}
}

// Promise 20, for this layer: every function answers at every argument and none panics; no argument is written into,
// nor the spare room behind it.
func TestBusesAnswerAtAll(t *testing.T) {
	numbers := append([]int64{-1, 0, 1, 2, 5, 6, 7, 100, 5000, 5001, 99999, 100000, 100001}, farNumbers...)
	frames := slices.Concat(rightFrames(), wrongFrames(), []impl.Frame{{Len: 8, Data: make([]int64, 1000)}})
	filters := [][]impl.Filter{nil, {}, {forAll}, {{Mask: -1}}, slices.Repeat([]impl.Filter{forOne(5)}, 8), slices.Repeat([]impl.Filter{forOne(5)}, 3000)}
	d, fifo, wrong := dice(2020), heard(32), spoilers()
	for range 1500 {
		number := func() int64 { return numbers[d.below(len(numbers))] }
		b := impl.Bus{Now: int64(d.below(100001))}
		if d.below(5) == 0 {
			b.Now = number()
		}
		var lists [][]impl.Filter
		for range d.below(9) {
			n := someNode(&d, fifo)
			if d.below(8) == 0 {
				n = with(n, wrong[d.below(len(wrong))])
			}
			b.Nodes, lists = append(b.Nodes, n), append(lists, filters[d.below(len(filters))])
		}
		given, held := busWithRoom(b)
		flips, turned := flipsWithRoom(someFlips(&d, 9))
		f, room := withRoom(frames[d.below(len(frames))])
		before, turnedBefore, roomBefore := held(), turned(), slices.Clone(room)
		mustAnswer(t, func() {
			impl.BusOk(given)
			impl.NewBus(lists)
			impl.LevelOf(given)
			impl.Ticked(given, flips)
			impl.RunFor(given, number()%200)
			impl.RunFor(given, number())
			impl.QueuedAt(given, number(), f)
			impl.QueuedAt(given, int64(d.below(8)-1), f)
		}, b, flips, f, lists)
		if !slices.Equal(held(), before) || !slices.Equal(turned(), turnedBefore) || !slices.Equal(room, roomBefore) {
			t.Fatalf("%+v, %v or %+v, or the room behind them, is changed", b, flips, f)
		}
	}
}

// Promise 20, for this layer: an answer is new memory also where the nodes of the bus, and what is queued, share memory
// with one another; and where many bits lie between.
func TestBusesAreNew(t *testing.T) {
	shared := []int64{1, 2, 3, 4, 5, 6, 7, 8, 9}
	of := func(id int64, size int) impl.Frame { return impl.Frame{Id: id, Len: int64(size), Data: shared[:size]} }
	box := []impl.Frame{of(1, 8), of(2, 0), of(3, 4), of(4, 8)}
	filters := []impl.Filter{forAll, forOne(1)}
	one := impl.Node{Box: box, Fifo: box, Filters: filters}
	held := func() []int64 {
		list := append(slices.Clone(shared), flatAll(box)...)
		for _, f := range filters {
			list = append(list, f.Mask, f.Code)
		}
		return list
	}
	f := of(1, 8)
	hears := with(one, func(n *impl.Node) { n.Phase, n.At, n.Got, n.Frame = impl.PhTail, 8, saidByEye(f), f })
	sends := with(one, func(n *impl.Node) { n.Phase, n.At, n.Got, n.Frame, n.Tx = impl.PhTail, 9, saidByEye(f), f, true })
	for _, b := range []impl.Bus{busOf(one, impl.Node{Filters: filters}, impl.Node{Fifo: box}), busOf(hears, hears, sends, sends), busOf(one, hears), {Nodes: []impl.Node{sends, hears, one}, Now: 100000}} {
		before := held()
		answers := func() (buses []impl.Bus, events [][]impl.Event) {
			for _, flips := range [][]bool{nil, {true, false, true}} {
				after, told := impl.Ticked(b, flips)
				buses, events = append(buses, after), append(events, told)
			}
			for _, bits := range []int64{-1, 0, 1, 130, 2000, 5001} {
				after, told := impl.RunFor(b, bits)
				buses, events = append(buses, after), append(events, told)
			}
			for _, node := range []int64{-1, 0, 1, 9} {
				for _, g := range []impl.Frame{of(0, 8), of(3, 4), f, {Id: -1, Data: shared}} {
					after, _ := impl.QueuedAt(b, node, g)
					buses, events = append(buses, after), append(events, nil)
				}
			}
			return buses, events
		}
		buses, events := answers()
		others, told := answers()
		for i, after := range buses {
			if !sameBuses(after, others[i]) || !sameEvents(events[i], told[i]) {
				t.Fatalf("asked again, %+v is told, not %+v", others[i], after)
			}
			checkOwnBus(t, after, events[i], held, func() []int64 {
				var list []int64
				for k := range others {
					list = append(append(list, flatBus(others[k])...), flatEvents(told[k])...)
				}
				return list
			})
		}
		if !slices.Equal(held(), before) {
			t.Fatal("an argument is written into")
		}
	}
	// NewBus of lists that are one list.
	b, _ := impl.NewBus([][]impl.Filter{filters, filters, filters[:1], filters[1:]})
	checkOwnBus(t, b, nil, held)
}

// Promise 20, for this layer: nothing is kept from call to call; another call tells what was changed in between.
func TestBusesKeepNothing(t *testing.T) {
	f := dataFrame(5, 1, 2)
	b := busOf(impl.Node{Box: []impl.Frame{f}}, impl.Node{Filters: []impl.Filter{forOne(5)}})
	flips := []bool{false, false}
	for range 3 {
		after, events := impl.RunFor(b, 200)
		if len(events) != 2 || len(after.Nodes[0].Box) != 0 {
			t.Fatalf("%+v: %+v", after, events)
		}
		b.Nodes[1].Filters[0].Code = 6
		if _, told := impl.RunFor(b, 200); len(told) != 1 {
			t.Fatalf("%+v is told", told)
		}
		b.Nodes[1].Filters[0].Code = 5
		f.Data[1] = 77
		after, _ = impl.Ticked(b, flips)
		f.Data[1] = 2
		if after.Nodes[0].Frame.Data[1] != 77 || after.Nodes[0].Box[0].Data[1] != 77 || events[0].Frame.Data[1] != 2 {
			t.Fatalf("what was answered has become %+v, or %+v", after, events)
		}
		flips[0] = true
		checkTickedByEye(t, b, flips)
		flips[0] = false
		checkTickedByEye(t, b, flips)
		f.Data[1] = 256
		checkBusRefused(t, b)
		f.Data[1] = 2
		checkBus(t, b, true, 0)
	}
}
