package tests

import (
	"slices"
	"testing"

	"loop.example/g00753/impl"
)

func TestBusConstants(t *testing.T) {
	if impl.MaxNodes != 6 || impl.MaxNow != 100000 || impl.MaxRun != 5000 {
		t.Errorf("MaxNodes is %d, MaxNow %d, MaxRun %d", impl.MaxNodes, impl.MaxNow, impl.MaxRun)
	}
}

// pulling are right nodes that give 0, one for each cause.
func pulling() []impl.Node {
	f := dataFrame(1365, 7)
	five := inBodyOf(f, 12, true)
	five.Run, five.Last = 5, 1
	return []impl.Node{{Box: boxOf(10)}, inBodyOf(f, 2, true), five, inTailOf(f, 1, false), {Phase: impl.PhFlag, Left: 1}, {Phase: impl.PhFlag, Left: 6, Box: boxOf(10)}}
}

// still are right nodes that give 1, most of them such that little keeps from giving 0.
func still() []impl.Node {
	f := dataFrame(1365, 7)
	five := inBodyOf(f, 2, true)
	five.Run, five.Last = 5, 0
	bad := inTailOf(f, 1, false)
	bad.Bad = true
	list := []impl.Node{{}, inBodyOf(f, 1, true), inBodyOf(f, 2, false), five, inTailOf(f, 0, false), inTailOf(f, 1, true), bad, inTailOf(f, 2, false), {Phase: impl.PhFlag, Left: 6, Mild: true}}
	for _, phase := range []int64{impl.PhDelim, impl.PhInter, impl.PhWait, impl.PhOff} {
		list = append(list, impl.Node{Phase: phase, Left: 5, Box: boxOf(10)})
	}
	return list
}

// someOf are so many of the nodes, from one on, and again from the first.
func someOf(nodes []impl.Node, first, count int) []impl.Node {
	var list []impl.Node
	for i := range count {
		list = append(list, nodes[(first+i)%len(nodes)])
	}
	return list
}

// changedNode is the bus with another node in that place.
func changedNode(b impl.Bus, place int, n impl.Node) impl.Bus {
	b.Nodes = slices.Replace(slices.Clone(b.Nodes), place, place+1, n)
	return b
}

func TestBusSizes(t *testing.T) {
	nodes := rightNodes()
	checkBusRefused(t, impl.Bus{})
	checkBusRefused(t, busOf([]impl.Node{}...))
	for first := 0; first < len(nodes); first += 7 {
		for size := range 9 {
			b := busOf(someOf(nodes, first, size)...)
			if size < 2 || size > 6 {
				checkBusRefused(t, b)
			} else {
				checkBus(t, b, true, levelByEye(b))
			}
		}
	}
	// Many more are no bus either.
	if b := busOf(make([]impl.Node, 65538)...); impl.BusOk(b) || impl.LevelOf(b) != 1 {
		t.Error("65538 nodes are a bus")
	}
}

func TestBusNow(t *testing.T) {
	for _, b := range []impl.Bus{busOf(still()[:6]...), busOf(pulling()[:2]...), busOf(pulling()...)} {
		for _, now := range []int64{0, 1, 5000, 99999, 100000} {
			b.Now = now
			checkBus(t, b, true, levelByEye(b))
		}
		for _, now := range append([]int64{-1, -2, 100001, 100002, 200000}, farNumbers...) {
			// A few of the far numbers are not far enough for Now.
			if now < 0 || now > 100000 {
				b.Now = now
				checkBusRefused(t, b)
			}
		}
	}
}

// One node that is not right, at each place, by each of its fields; the others are right, and pull or do not.
func TestBusWrongNodes(t *testing.T) {
	wrong := spoilers()
	for size := 2; size <= 6; size++ {
		for place := range size {
			for i, spoil := range wrong {
				b := busOf(someOf([][]impl.Node{still(), pulling()}[i%2], i, size)...)
				checkBusRefused(t, changedNode(b, place, with(b.Nodes[place], spoil)))
			}
		}
	}
	// All of them, and each of two.
	for _, spoil := range wrong {
		b := busOf(with(impl.Node{}, spoil), with(worn(), spoil))
		checkBusRefused(t, b)
	}
}

// checkNewBus fails where NewBus does not answer nodes of these filters and nothing else, or, where ok is false, the zero
// Bus; where it writes into the filters, or behind them; and where the answer is not new memory.
func checkNewBus(t *testing.T, filters [][]impl.Filter, ok bool) {
	t.Helper()
	var given, all [][]impl.Filter
	want := impl.Bus{}
	for _, list := range filters {
		one, room := filtersWithRoom(list)
		given, all = append(given, one), append(all, room)
		want.Nodes = append(want.Nodes, impl.Node{Filters: list})
	}
	if !ok {
		want = impl.Bus{}
	}
	given = append(given, make([]impl.Filter, 9), nil)
	held := func() []int64 {
		var list []int64
		for _, f := range slices.Concat(all...) {
			list = append(list, f.Mask, f.Code)
		}
		for _, one := range given {
			list = append(list, int64(len(one)))
		}
		return list
	}
	before := held()
	b, told := impl.NewBus(given[:len(filters)])
	if told != ok || !sameBuses(b, want) {
		t.Fatalf("NewBus %+v: %v, %+v", filters, told, b)
	}
	checkBus(t, b, ok, 1)
	if !slices.Equal(held(), before) {
		t.Fatalf("%+v, or the room behind it, is changed", filters)
	}
	second, _ := impl.NewBus(given[:len(filters)])
	checkOwnBus(t, b, nil, held, func() []int64 { return flatBus(second) })
}

func TestNewBusSizes(t *testing.T) {
	lists := [][]impl.Filter{nil, {forAll}, {forOne(5), forOne(5)}, {}, slices.Repeat([]impl.Filter{{Mask: 2047, Code: 2047}}, 8), {{Code: 2047}, {Mask: 3, Code: 1}}, nil, {forAll}}
	checkNewBus(t, nil, false)
	for first := range lists {
		for size := range 9 {
			var filters [][]impl.Filter
			for i := range size {
				filters = append(filters, lists[(first+i)%len(lists)])
			}
			checkNewBus(t, filters, size >= 2 && size <= 6)
		}
	}
	for _, size := range []int{7, 256, 258, 65538} {
		if b, ok := impl.NewBus(make([][]impl.Filter, size)); ok || !sameBuses(b, impl.Bus{}) {
			t.Errorf("NewBus of %d lists: %v, %+v", size, ok, b)
		}
	}
}

// A list that NewNode refuses, at each place: too long, or with one filter that is not right, first, in the middle or last.
func TestNewBusWrongFilters(t *testing.T) {
	var wrong [][]impl.Filter
	for _, f := range []impl.Filter{{Mask: -1}, {Code: -1}, {Mask: 2048}, {Code: 2048}, {Mask: farNumbers[0]}, {Code: farNumbers[len(farNumbers)-1]}} {
		wrong = append(wrong, []impl.Filter{f}, slices.Insert(slices.Repeat([]impl.Filter{forAll}, 7), 0, f), slices.Insert(slices.Repeat([]impl.Filter{forAll}, 7), 4, f), slices.Insert(slices.Repeat([]impl.Filter{forAll}, 7), 7, f))
	}
	wrong = append(wrong, make([]impl.Filter, 9), slices.Repeat([]impl.Filter{forOne(5)}, 1000))
	for size := 1; size <= 7; size++ {
		for place := range size {
			for _, list := range wrong {
				filters := make([][]impl.Filter, size)
				for i := range filters {
					filters[i] = [][]impl.Filter{nil, {forOne(3)}, make([]impl.Filter, 8)}[i%3]
				}
				filters[place] = list
				checkNewBus(t, filters, false)
			}
		}
	}
	checkNewBus(t, [][]impl.Filter{wrong[0], wrong[1]}, false)
}

// Where none pulls, the level is 1; where one does, at whatever place, and where all do, it is 0.
func TestLevels(t *testing.T) {
	down, up := pulling(), still()
	for size := 2; size <= 6; size++ {
		for first := range up {
			b := busOf(someOf(up, first, size)...)
			checkBus(t, b, true, 1)
			for place := range size {
				checkBus(t, changedNode(b, place, down[(first+place)%len(down)]), true, 0)
			}
		}
		for first := range down {
			checkBus(t, busOf(someOf(down, first, size)...), true, 0)
		}
	}
}

func TestLevelsByHand(t *testing.T) {
	f, g := dataFrame(1365, 7), dataFrame(2047)
	answer, sends, bad := inTailOf(f, 1, false), inTailOf(f, 1, true), with(inTailOf(f, 1, false), func(n *impl.Node) { n.Bad = true })
	hard, mild := impl.Node{Phase: impl.PhFlag, Left: 6}, impl.Node{Phase: impl.PhFlag, Left: 6, Mild: true}
	for _, c := range []struct {
		nodes []impl.Node
		level int64
	}{
		{make([]impl.Node, 2), 1}, {make([]impl.Node, 6), 1}, {[]impl.Node{{Box: []impl.Frame{g}}, {}}, 0}, {[]impl.Node{{}, {}, {Box: []impl.Frame{g}}}, 0},
		// The answer bit: one that has heard it well is enough; who sends, and who has heard it badly, does not answer.
		{[]impl.Node{sends, answer}, 0}, {[]impl.Node{sends, bad}, 1}, {[]impl.Node{sends, bad, bad, bad, bad, answer}, 0}, {[]impl.Node{answer, sends, sends}, 0}, {[]impl.Node{sends, sends, bad}, 1},
		// The flag is seen where one of them is not Mild.
		{[]impl.Node{hard, mild}, 0}, {[]impl.Node{mild, mild}, 1}, {[]impl.Node{mild, {}, hard}, 0}, {[]impl.Node{mild, {}, {}, mild}, 1}, {[]impl.Node{hard, hard}, 0},
		// Two that say their numbers: 0 wins.
		{[]impl.Node{inBodyOf(f, 1, true), inBodyOf(g, 1, true)}, 1}, {[]impl.Node{inBodyOf(f, 2, true), inBodyOf(g, 2, true)}, 0}, {[]impl.Node{inBodyOf(g, 2, true), inBodyOf(f, 2, true)}, 0}, {[]impl.Node{inBodyOf(f, 2, false), inBodyOf(g, 2, true)}, 1},
	} {
		checkBus(t, busOf(c.nodes...), true, c.level)
		// One that is not right, and one or seven in all, are no bus: 1.
		for place := range c.nodes {
			checkBus(t, changedNode(busOf(c.nodes...), place, with(c.nodes[place], func(n *impl.Node) { n.Left = 129 })), false, 1)
		}
		checkBus(t, busOf(c.nodes[:1]...), false, 1)
		checkBus(t, busOf(someOf(c.nodes, 0, 7)...), false, 1)
		checkBus(t, impl.Bus{Nodes: c.nodes, Now: 100001}, false, 1)
		checkBus(t, impl.Bus{Nodes: c.nodes, Now: -1}, false, 1)
	}
}

// Each set of places in lists of flips that are shorter than the nodes, as long and longer; what is behind the place of
// the last node does not matter. All are idle, and the last one has something to say, or none has.
func TestTickedFlips(t *testing.T) {
	f := dataFrame(700, 1, 2)
	for _, size := range []int{2, 3, 6} {
		for _, says := range []bool{false, true} {
			b := impl.Bus{Nodes: make([]impl.Node, size), Now: 77}
			if says {
				b.Nodes[size-1].Box = []impl.Frame{f}
			}
			begun := impl.Node{Phase: impl.PhBody, Got: "0", Run: 1}
			for length := range 9 {
				for set := range 1 << length {
					flips := make([]bool, length)
					want := impl.Bus{Nodes: slices.Clone(b.Nodes), Now: 78}
					for i := range max(size, length) {
						flipped := set>>i%2 == 1
						if i < length {
							flips[i] = flipped
						}
						switch {
						case i >= size || flipped == says:
						case i == size-1 && says:
							want.Nodes[i] = with(begun, func(n *impl.Node) { n.Tx, n.Frame, n.Box = true, f, []impl.Frame{f} })
						default:
							want.Nodes[i] = begun
						}
					}
					checkTicked(t, b, flips, want, nil)
				}
			}
		}
	}
	long := make([]bool, 1<<20)
	long[6], long[1<<20-1] = true, true
	checkTicked(t, busOf(make([]impl.Node, 6)...), long, impl.Bus{Nodes: make([]impl.Node, 6), Now: 1}, nil)
}

// Nodes that see different levels in one bit: at each bit of a frame, who is flipped breaks off where that is not what
// it must see, and all others go on.
func TestTickedDifferentLevels(t *testing.T) {
	f := dataFrame(1365, 7)
	size := len(impl.WireOf(f))
	b := queued(t, newBus(t, 4), 1, f)
	told := map[int64]int{}
	for range size + 3 {
		for set := range 16 {
			flips := []bool{set%2 == 1, set/2%2 == 1, set/4%2 == 1, set/8%2 == 1}
			for _, e := range checkTickedByEye(t, b, flips) {
				told[e.Kind]++
				if e.At != b.Now || e.Kind == impl.HpErr && !flips[e.Node] {
					t.Fatalf("%+v with %v: %+v", b, flips, e)
				}
			}
		}
		b, _ = impl.Ticked(b, nil)
	}
	if told[impl.HpErr] < 600 || told[impl.HpGot] != 24 || told[impl.HpSent] != 8 {
		t.Error(told)
	}
}

func TestTickedDifferentLevelsByHand(t *testing.T) {
	f := dataFrame(1365, 7)
	size := int64(len(impl.WireOf(f)))
	b := queued(t, newBus(t, 4), 1, f)
	err := func(at int64, nodes ...int64) []impl.Event {
		var events []impl.Event
		for _, node := range nodes {
			events = append(events, impl.Event{At: at, Node: node, Kind: impl.HpErr})
		}
		return events
	}
	got := func(at int64, nodes ...int64) []impl.Event {
		var events []impl.Event
		for _, node := range nodes {
			events = append(events, impl.Event{At: at, Node: node, Kind: impl.HpGot, Frame: f})
		}
		return events
	}
	// The tail has 10 bits; the answer is the second one of them.
	tail := size - 10
	for _, c := range []struct {
		at     int64
		flips  []bool
		events []impl.Event
	}{
		{20, []bool{false, true}, err(20, 1)}, {20, []bool{true, false, true, true}, nil},
		{tail, []bool{true, false, true}, err(tail, 0, 2)}, {tail, []bool{false, false, false, true}, err(tail, 3)}, {tail, []bool{true, true, true, true}, err(tail, 0, 1, 2, 3)},
		{tail + 1, []bool{true, true, true, true}, err(tail+1, 1)}, {tail + 1, []bool{true, false, true, true}, nil}, {tail + 2, []bool{true}, err(tail+2, 0)}, {tail + 5, []bool{false, true, true}, err(tail+5, 1, 2)},
		{tail + 8, nil, got(tail+8, 0, 2, 3)}, {tail + 8, []bool{false, true}, append(got(tail+8, 0), slices.Concat(err(tail+8, 1), got(tail+8, 2, 3))...)}, {tail + 8, []bool{true, false, false, true}, slices.Concat(err(tail+8, 0), got(tail+8, 2), err(tail+8, 3))},
		{tail + 9, nil, []impl.Event{{At: tail + 9, Node: 1, Kind: impl.HpSent, Frame: f}}}, {tail + 9, []bool{true, false, true, true}, []impl.Event{{At: tail + 9, Node: 1, Kind: impl.HpSent, Frame: f}}}, {tail + 9, []bool{false, true}, err(tail+9, 1)},
		{tail + 10, []bool{true, true, true, true}, nil},
	} {
		then, _ := impl.RunFor(b, c.at)
		if after, events := impl.Ticked(then, c.flips); !sameEvents(events, c.events) || after.Now != c.at+1 {
			t.Errorf("at %d with %v: %+v, not %+v; Now is %d", c.at, c.flips, events, c.events, after.Now)
		}
		checkTickedByEye(t, then, c.flips)
	}
}

// teller is a right node that gives 1, and what it tells where it sees 1.
type teller struct {
	n     impl.Node
	told  int64
	frame impl.Frame
}

func tellers() []teller {
	f, g := dataFrame(1365, 7), remoteFrame(1001, 8)
	broken := impl.Node{Phase: impl.PhBody, Got: "0101", Run: 5, Last: 1, Box: boxOf(3)}
	return []teller{
		{inTailOf(f, 9, true), impl.HpSent, f}, {inTailOf(g, 8, false), impl.HpGot, g}, {with(inTailOf(f, 8, false), func(n *impl.Node) { n.Fifo = heard(32) }), impl.HpFull, f},
		{broken, impl.HpErr, impl.Frame{}}, {with(broken, func(n *impl.Node) { n.Count.Sent = 256 }), impl.HpOff, impl.Frame{}}, {impl.Node{Phase: impl.PhOff, Run: 10, Left: 1, Box: boxOf(4)}, impl.HpBack, impl.Frame{}},
		{impl.Node{}, impl.HpNone, impl.Frame{}}, {with(inTailOf(f, 8, false), func(n *impl.Node) { n.Filters = []impl.Filter{forOne(9)} }), impl.HpNone, impl.Frame{}},
	}
}

// eachOrder are all orders of so many of the places.
func eachOrder(places []int, count int, call func(order []int)) {
	if count == 0 {
		call(nil)
		return
	}
	for i, place := range places {
		rest := slices.Delete(slices.Clone(places), i, i+1)
		eachOrder(rest, count-1, func(order []int) { call(append([]int{place}, order...)) })
	}
}

// Events of several nodes in one bit, in whatever order the nodes are: in order of the nodes, At being Now as it was.
func TestTickedEventsOfSeveral(t *testing.T) {
	kinds := tellers()
	for size := 2; size <= 6; size++ {
		count := 0
		eachOrder([]int{0, 1, 2, 3, 4, 5, 6, 7}, size, func(order []int) {
			// Of the longer ones each so many'th is enough.
			if count++; count%[]int{2: 1, 3: 1, 4: 4, 5: 40, 6: 90}[size] > 0 {
				return
			}
			b := impl.Bus{Now: int64(count % 100000)}
			want := impl.Bus{Now: b.Now + 1}
			var events []impl.Event
			for i, kind := range order {
				one := kinds[kind]
				after, _ := sampledByEye(one.n, 1)
				b.Nodes, want.Nodes = append(b.Nodes, one.n), append(want.Nodes, after)
				if one.told != impl.HpNone {
					events = append(events, impl.Event{At: b.Now, Node: int64(i), Kind: one.told, Frame: one.frame})
				}
			}
			checkBus(t, b, true, 1)
			checkTicked(t, b, nil, want, events)
			// At the end nothing is done and nothing told; one bit ahead of it all is.
			for _, now := range []int64{99999, 100000} {
				b.Now, want.Now = now, 100000
				for i := range events {
					events[i].At = now
				}
				if now == 99999 {
					checkTicked(t, b, nil, want, events)
				} else {
					checkTicked(t, b, nil, b, nil)
					checkTicked(t, b, []bool{true, true, true, true, true, true}, b, nil)
				}
			}
		})
	}
}

// All see one level, as the nodes were ahead of the bit: not what those that come first have become meanwhile.
func TestTickedSeesOneLevel(t *testing.T) {
	for size := 2; size <= 6; size++ {
		for place := range size {
			idle := busOf(make([]impl.Node, size)...)
			// One that pulls, and does no longer behind this bit, or does as before.
			for _, n := range pulling() {
				after, events := impl.Ticked(changedNode(idle, place, n), nil)
				for i, other := range after.Nodes {
					if i != place && !sameNodes(other, impl.Node{Phase: impl.PhBody, Got: "0", Run: 1}) {
						t.Fatalf("node %d beside %+v at %d has become %+v", i, n, place, other)
					}
				}
				if len(events) > 0 {
					t.Fatalf("%+v at %d tells %+v", n, place, events)
				}
			}
			// One that does not pull yet, but does behind this bit.
			for _, n := range []impl.Node{inTailOf(dataFrame(5), 0, false), {Phase: impl.PhInter, Left: 1, Box: boxOf(3)}, inBodyOf(dataFrame(1365, 7), 1, true)} {
				b := changedNode(idle, place, n)
				after, _ := impl.Ticked(b, nil)
				if impl.LevelOf(b) != 1 || impl.LevelOf(after) != 0 {
					t.Fatalf("%+v gives 0, or does not behind that", n)
				}
				for i, other := range after.Nodes {
					if i != place && !sameNodes(other, impl.Node{}) {
						t.Fatalf("node %d beside %+v at %d has become %+v", i, n, place, other)
					}
				}
			}
		}
	}
}

// someBus is a right bus of whatever nodes.
func someBus(d *dice, fifo []impl.Frame) impl.Bus {
	b := impl.Bus{Now: int64(d.below(100000))}
	for range 2 + d.below(5) {
		b.Nodes = append(b.Nodes, someNode(d, fifo))
	}
	return b
}

func someFlips(d *dice, most int) []bool {
	flips := make([]bool, d.below(most+1))
	for i := range flips {
		flips[i] = d.below(3) == 0
	}
	return flips
}

// Any right bus and any flips: told alike in the other way, and right behind it.
func TestTickedAnyBus(t *testing.T) {
	d, fifo := dice(13), heard(32)
	told := map[int64]int{}
	for range 1000 {
		b := someBus(&d, fifo)
		checkBus(t, b, true, levelByEye(b))
		flips := someFlips(&d, 8)
		for _, e := range checkTickedByEye(t, b, flips) {
			told[e.Kind]++
		}
		if after, _ := impl.Ticked(b, flips); !impl.BusOk(after) {
			t.Fatalf("%+v with %v is not right any more: %+v", b, flips, after)
		}
	}
	for kind := int64(1); kind <= 6; kind++ {
		if told[kind] < 5 {
			t.Errorf("only %d have told %d", told[kind], kind)
		}
	}
}

// In whatever order the nodes stand, each of them becomes the same and tells the same.
func TestTickedInAnyOrder(t *testing.T) {
	d, fifo := dice(31), heard(32)
	for range 600 {
		b := someBus(&d, fifo)
		flips := make([]bool, len(b.Nodes))
		for i := range flips {
			flips[i] = d.below(3) == 0
		}
		after, events := impl.Ticked(b, flips)
		shift := 1 + d.below(len(flips)-1)
		turned := func(i int) int { return (i + shift) % len(flips) }
		moved, turns := impl.Bus{Now: b.Now}, make([]bool, len(flips))
		for i := range flips {
			moved.Nodes, turns[i] = append(moved.Nodes, b.Nodes[turned(i)]), flips[turned(i)]
		}
		then, told := impl.Ticked(moved, turns)
		for i, n := range then.Nodes {
			if !sameNodes(n, after.Nodes[turned(i)]) {
				t.Fatalf("%+v has become %+v, and elsewhere %+v", moved.Nodes[i], n, after.Nodes[turned(i)])
			}
		}
		for i := range told {
			told[i].Node = int64(turned(int(told[i].Node)))
		}
		slices.SortFunc(told, func(a, b impl.Event) int { return int(a.Node - b.Node) })
		if !sameEvents(told, events) {
			t.Fatalf("%+v is told, and elsewhere %+v", events, told)
		}
	}
}

// timesOf are the frames, one behind the other: At of HpSent of each of them where the first one begins at bit 0.
func timesOf(frames ...impl.Frame) []int64 {
	var times []int64
	at := int64(0)
	for _, f := range frames {
		at += int64(len(stuffedByEyeOf(f))) + 10
		times = append(times, at-1)
		at += 3
	}
	return times
}

// Of three nodes with two frames each: who sends what when, written out.
func TestRunForByHand(t *testing.T) {
	low, ask, mid, high, last, none := dataFrame(1, 255, 0), remoteFrame(1, 8), dataFrame(700), dataFrame(701, 1, 2, 3, 4, 5, 6, 7, 8), remoteFrame(2047, 0), dataFrame(0, 0, 0)
	b, _ := impl.NewBus([][]impl.Filter{nil, {forOne(1), forOne(2047)}, {{Mask: 1, Code: 0}}})
	for _, q := range []struct {
		node int64
		f    impl.Frame
	}{{2, last}, {0, mid}, {1, ask}, {0, low}, {1, none}, {2, high}} {
		b = queued(t, b, q.node, q.f)
	}
	at := timesOf(none, low, ask, mid, high, last)
	got := func(place int, node int64, f impl.Frame) impl.Event {
		return impl.Event{At: at[place] - 1, Node: node, Kind: impl.HpGot, Frame: f}
	}
	sent := func(place int, node int64, f impl.Frame) impl.Event {
		return impl.Event{At: at[place], Node: node, Kind: impl.HpSent, Frame: f}
	}
	// Node 1 lets through 1 and 2047, node 2 what is even.
	want := []impl.Event{
		got(0, 0, none), got(0, 2, none), sent(0, 1, none), got(1, 1, low), sent(1, 0, low), got(2, 0, ask), sent(2, 1, ask),
		got(3, 2, mid), sent(3, 0, mid), got(4, 0, high), sent(4, 2, high), got(5, 0, last), got(5, 1, last), sent(5, 2, last),
	}
	done := impl.Bus{Nodes: []impl.Node{
		{Fifo: []impl.Frame{none, ask, high, last}}, {Fifo: []impl.Frame{low, last}, Filters: []impl.Filter{forOne(1), forOne(2047)}}, {Fifo: []impl.Frame{none, mid}, Filters: []impl.Filter{{Mask: 1, Code: 0}}},
	}, Now: 5000}
	checkRan(t, b, 5000, done, want)
	byEye, events := ranByEye(b, at[5]+10)
	done.Now = at[5] + 10
	if !sameBuses(byEye, done) || !sameEvents(events, want) {
		t.Fatalf("it is not told in the other way: %+v, %+v", byEye, events)
	}
	// As many bits as it takes, and one less: the last of the events is there, and is not.
	for i, e := range want {
		for _, bits := range []int64{e.At, e.At + 1} {
			_, events := impl.RunFor(b, bits)
			count := len(slices.DeleteFunc(slices.Clone(want), func(o impl.Event) bool { return o.At >= bits }))
			if !sameEvents(events, want[:count]) || (count > i) != (bits > e.At) {
				t.Fatalf("in %d bits: %+v", bits, events)
			}
		}
	}
}

// busyBus has much to say, and is somewhere in it.
func busyBus(t *testing.T) impl.Bus {
	b := newBus(t, 3)
	for i := range int64(12) {
		b = queued(t, b, i%3, frameOfRank(i*99+7, uint32(i)))
	}
	b, _ = impl.RunFor(b, 200)
	b, _ = impl.Ticked(b, []bool{true, false, true})
	return b
}

func TestRunForBits(t *testing.T) {
	b := busyBus(t)
	for _, bits := range append([]int64{-1, 0, 5001, 5002, -5000, 10000, 100000}, farNumbers...) {
		if bits == 0 || bits < 0 || bits > 5000 {
			checkRan(t, b, bits, b, nil)
		}
	}
	after, events := impl.Ticked(b, nil)
	checkRan(t, b, 1, after, events)
	byEye, by := ranByEye(b, 1500)
	checkRan(t, b, 1500, byEye, by)
	if len(by) < 20 {
		t.Errorf("only %d events", len(by))
	}
	var all []impl.Event
	then := b
	for range 5000 {
		after, events := impl.Ticked(then, nil)
		then, all = after, append(all, events...)
	}
	if then.Now != b.Now+5000 || len(all) < 25 {
		t.Fatalf("%+v, with %d events", then, len(all))
	}
	checkRan(t, b, 5000, then, all)
	checkRan(t, b, 4999, impl.Bus{Nodes: then.Nodes, Now: then.Now - 1}, all)
	// A bus that is still, for as long as may be.
	checkRan(t, newBus(t, 2), 5000, impl.Bus{Nodes: make([]impl.Node, 2), Now: 5000}, nil)
}

// A run that meets the end on its way stays there; of what would be behind that nothing is told.
func TestRunForMeetsTheEnd(t *testing.T) {
	b := busyBus(t)
	for _, left := range []int64{0, 1, 2, 40, 150, 1000, 4999, 5000, 5001} {
		b.Now = 100000 - left
		want, events := impl.Bus{Nodes: b.Nodes, Now: b.Now}, []impl.Event(nil)
		for _, bits := range upTo(0, 160) {
			if bits > 0 && want.Now < 100000 {
				after, told := impl.Ticked(want, nil)
				want, events = after, append(events, told...)
			}
			if bits < 3 || bits%20 < 2 {
				checkRan(t, b, bits, want, events)
			}
		}
		for want.Now < min(100000, b.Now+5000) {
			after, told := impl.Ticked(want, nil)
			want, events = after, append(events, told...)
		}
		checkRan(t, b, 5000, want, events)
		checkRan(t, b, 5001, b, nil)
		checkRan(t, b, -1, b, nil)
		if left < 5000 {
			checkRan(t, b, left, want, events)
			checkRan(t, b, left+1, want, events)
		}
		if left <= 5000 && want.Now != 100000 {
			t.Fatalf("with %d left Now is %d", left, want.Now)
		}
	}
}

// A run in two parts is as one in one part, wherever it is parted; and as bit by bit.
func TestRunForInParts(t *testing.T) {
	b := busyBus(t)
	const bits = 700
	whole, events := impl.RunFor(b, bits)
	for first := int64(0); first <= bits; first += 7 {
		half, ahead := impl.RunFor(b, first)
		checkRan(t, half, bits-first, whole, events[len(ahead):])
		if !sameEvents(ahead, events[:len(ahead)]) || half.Now != b.Now+first {
			t.Fatalf("parted at %d: %+v", first, ahead)
		}
	}
	then, all := b, []impl.Event(nil)
	for range bits {
		after, told := impl.Ticked(then, make([]bool, 3))
		then, all = after, append(all, told...)
	}
	if !sameBuses(then, whole) || !sameEvents(all, events) {
		t.Fatalf("bit by bit %+v is told, not %+v", all, events)
	}
}

func TestQueuedAtByHand(t *testing.T) {
	five, other, ask := dataFrame(5, 55), dataFrame(5, 7, 8), remoteFrame(5, 3)
	full := impl.Node{Box: fullBox()}
	b := impl.Bus{Nodes: []impl.Node{{}, {Box: []impl.Frame{five}}, full, inTailOf(five, 3, true), worn()}, Now: 12345}
	for _, c := range []struct {
		node int64
		f    impl.Frame
		box  []impl.Frame
		code int64
	}{
		{0, five, []impl.Frame{five}, impl.BxOk}, {0, impl.Frame{}, []impl.Frame{{}}, impl.BxOk}, {1, ask, []impl.Frame{five, ask}, impl.BxOk}, {1, dataFrame(4), []impl.Frame{dataFrame(4), five}, impl.BxOk},
		{1, other, []impl.Frame{other}, impl.BxOver}, {1, five, []impl.Frame{five}, impl.BxOver}, {2, impl.Frame{}, nil, impl.BxFull}, {2, ask, nil, impl.BxFull},
		{2, remoteFrame(2047, 1), nil, impl.BxFull}, {2, dataFrame(2, 9), append([]impl.Frame{dataFrame(2, 9)}, fullBox()[1:]...), impl.BxOver},
		// Node 3 is sending that rank: neither the frame itself nor another one is put there.
		{3, five, nil, impl.BxFull}, {3, other, nil, impl.BxFull}, {3, ask, []impl.Frame{five, ask, remoteFrame(2047, 3)}, impl.BxOk}, {3, remoteFrame(2047, 4), []impl.Frame{five, remoteFrame(2047, 4)}, impl.BxOver},
		{4, dataFrame(1), append([]impl.Frame{dataFrame(1)}, worn().Box...), impl.BxOk},
		{0, impl.Frame{Id: -1}, nil, impl.BxBad}, {2, dataFrame(5, 256), nil, impl.BxBad}, {3, impl.Frame{Id: 5, Len: 1}, nil, impl.BxBad}, {4, remoteFrame(5, 9), nil, impl.BxBad},
		// No such node.
		{-1, five, nil, impl.BxBad}, {5, five, nil, impl.BxBad}, {6, five, nil, impl.BxBad}, {-1, impl.Frame{Id: -1}, nil, impl.BxBad},
	} {
		want := b
		if c.box != nil {
			want = changedNode(b, int(c.node), with(b.Nodes[c.node], func(n *impl.Node) { n.Box = c.box }))
		}
		checkQueuedAt(t, b, c.node, c.f, want, c.code)
	}
}

// Each size of a bus, each place: that node alone has it; before the first one and behind the last one there is none.
func TestQueuedAtEachNode(t *testing.T) {
	f := dataFrame(7, 1, 2)
	for size := 2; size <= 6; size++ {
		for first := range still() {
			for _, now := range []int64{0, 99999, 100000} {
				b := impl.Bus{Nodes: someOf(still(), first, size), Now: now}
				node := int64((first + int(now)) % size)
				for _, node := range []int64{-1, 0, node, int64(size) - 1, int64(size), int64(size) + 1} {
					want, code := b, int64(impl.BxBad)
					if node >= 0 && node < int64(size) {
						code = impl.BxOk
						box, _ := putByEye(b.Nodes[node].Box, f)
						want = changedNode(b, int(node), with(b.Nodes[node], func(n *impl.Node) { n.Box = box }))
					}
					checkQueuedAt(t, b, node, f, want, code)
				}
			}
		}
		b := busOf(make([]impl.Node, size)...)
		for _, node := range farNumbers {
			checkQueuedAt(t, b, node, f, b, impl.BxBad)
			checkQueuedAt(t, b, node, impl.Frame{Id: -1}, b, impl.BxBad)
		}
	}
}

// At each bit of a frame: who sends it keeps it, whatever is queued there; the others have that rank besides.
func TestQueuedAtWhileSending(t *testing.T) {
	f, other := dataFrame(5, 1, 2), dataFrame(5, 9)
	b := queued(t, queued(t, newBus(t, 3), 1, f), 2, dataFrame(6))
	size := int64(len(impl.WireOf(f)))
	for at := range size + 4 {
		code, want := int64(impl.BxFull), b
		switch {
		case at == 0:
			code, want = impl.BxOver, changedNode(b, 1, with(b.Nodes[1], func(n *impl.Node) { n.Box = []impl.Frame{other} }))
		case at >= size:
			code, want = impl.BxOk, changedNode(b, 1, with(b.Nodes[1], func(n *impl.Node) { n.Box = []impl.Frame{other} }))
		}
		checkQueuedAt(t, b, 1, other, want, code)
		for _, node := range []int{0, 2} {
			box, _ := putByEye(b.Nodes[node].Box, other)
			checkQueuedAt(t, b, int64(node), other, changedNode(b, node, with(b.Nodes[node], func(n *impl.Node) { n.Box = box })), impl.BxOk)
		}
		b, _ = impl.Ticked(b, nil)
	}
}

// Any right bus, any node and any frame.
func TestQueuedAtAnyBus(t *testing.T) {
	d, fifo := dice(23), heard(32)
	codes := map[int64]int{}
	for range 800 {
		b := someBus(&d, fifo)
		f := frameOfRank(int64(d.below(40)), uint32(d))
		node := d.below(8) - 1
		switch {
		case d.below(3) == 0 && node >= 0 && node < len(b.Nodes):
			f = b.Nodes[node].Frame
		case d.below(8) == 0:
			f.Id += 2048
		}
		want, code := queuedAtByEye(b, int64(node), f)
		codes[code]++
		checkQueuedAt(t, b, int64(node), f, want, code)
	}
	for code := range int64(4) {
		if codes[code] < 30 {
			t.Error(codes)
		}
	}
}
