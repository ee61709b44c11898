package tests

import (
	"slices"
	"strconv"
	"strings"
	"testing"

	"loop.example/g00753/impl"
)

// sentenceOf is all that a node says that sends alone, each of its bits being seen, but a 0 in the place of the answer;
// it answers what the node is then.
func sentenceOf(t *testing.T, n impl.Node, answerAt int) (string, impl.Node, impl.Happen) {
	t.Helper()
	said := ""
	for range 200 {
		level := impl.Drives(n)
		said += strconv.FormatInt(level, 10)
		if len(said) == answerAt {
			level = 0
		}
		after, told := impl.Sampled(n, level)
		if !impl.NodeOk(after) {
			t.Fatalf("%+v at %d is not right any more: %+v", n, level, after)
		}
		if told.Kind != impl.HpNone {
			return said, after, told
		}
		n = after
	}
	t.Fatalf("it says %q, and no end", said)
	return "", n, impl.Happen{}
}

// Promise 12, and what a node is for: it says the bits of WireOf, and has sent the frame at the last of them.
func TestNodesSayTheWire(t *testing.T) {
	seenFrames, putBehind := 0, 0
	manyFrames(func(f impl.Frame) {
		wire := impl.WireOf(f)
		put := strings.HasSuffix(wire[:len(wire)-10], "000001") || strings.HasSuffix(wire[:len(wire)-10], "111110")
		seenFrames++
		if !put && seenFrames%9 > 0 {
			return
		}
		if put {
			putBehind++
		}
		for _, box := range [][]impl.Frame{{f}, besideLast(f)} {
			n := impl.Node{Box: box, Count: impl.Count{Sent: 5}}
			said, after, told := sentenceOf(t, n, len(wire)-8)
			want := impl.Node{Phase: impl.PhInter, Left: 3, Tx: true, Frame: f, Box: box[1:], Count: impl.Count{Sent: 4}}
			if said != wire || !sameHappens(told, impl.Happen{Kind: impl.HpSent, Frame: f}) || !sameNodes(after, want) {
				t.Fatalf("%+v: %q, not %q; %+v, %+v", f, said, wire, told, after)
			}
			if rest := seen(t, after, "111", impl.HpNone); !sameNodes(rest, impl.Node{Box: box[1:], Count: impl.Count{Sent: 4}}) {
				t.Fatalf("%+v: it rests as %+v", f, rest)
			}
		}
		// Without an answer it breaks off there.
		said, after, told := sentenceOf(t, impl.Node{Box: []impl.Frame{f}}, 0)
		if said != wire[:len(wire)-8] || told.Kind != impl.HpErr || after.Count.Sent != 8 || len(after.Box) != 1 {
			t.Fatalf("%+v without an answer: %q, %+v, %+v", f, said, told, after)
		}
	})
	if putBehind < 10 {
		t.Errorf("in only %d frames one is put in behind the check", putBehind)
	}
}

// Who hears the bits of WireOf answers, and has heard the frame one bit ahead of the last; with one bit turned over it
// has not, and breaks off.
func TestNodesHearTheWire(t *testing.T) {
	for i, f := range rightFrames() {
		wire := impl.WireOf(f)
		answered := turnedOver(wire, len(wire)-9)
		n := impl.Node{Count: impl.Count{Got: 5}}
		for place, level := range []byte(answered) {
			if drives := impl.Drives(n); (drives == 0) != (place == len(wire)-9) {
				t.Fatalf("%+v at bit %d of %q: it gives %d", n, place, wire, drives)
			}
			after, told := impl.Sampled(n, int64(level-'0'))
			want := impl.Happen{}
			if place == len(wire)-2 {
				want = impl.Happen{Kind: impl.HpGot, Frame: f}
			}
			if !sameHappens(told, want) {
				t.Fatalf("%+v at bit %d of %q: %+v", n, place, wire, told)
			}
			n = after
		}
		if !sameNodes(n, impl.Node{Phase: impl.PhInter, Left: 3, Fifo: []impl.Frame{f}, Count: impl.Count{Got: 4}}) {
			t.Fatalf("%q is heard as %+v", wire, n)
		}
		for place := 1 + i%3; place < len(wire)-1; place += 3 {
			if place == len(wire)-9 {
				continue
			}
			n, broken := impl.Node{}, false
			for _, level := range []byte(turnedOver(answered, place)) {
				var told impl.Happen
				n, told = impl.Sampled(n, int64(level-'0'))
				broken = broken || told.Kind == impl.HpErr
				if told.Kind == impl.HpGot {
					t.Fatalf("%q, turned over at %d, is heard", wire, place)
				}
			}
			if !broken && n.Phase != impl.PhBody {
				t.Fatalf("%q, turned over at %d, breaks nobody off: %+v", wire, place, n)
			}
		}
	}
}

// Several right nodes on one wire, each with frames of its own: the lesser rank goes first, and all others hear it.
func TestNodesTogether(t *testing.T) {
	for seed := range uint32(60) {
		count := 2 + int(seed%5)
		nodes := make([]impl.Node, count)
		var all []int64
		numbers := someBytes(count*3, seed)
		for i := range nodes {
			for k := range 1 + int(seed)%3 {
				// No rank twice, in whatever box.
				rank := numbers[i*3+k]*16 + int64(i)
				nodes[i], _ = impl.Queued(nodes[i], frameOfRank(rank, seed+uint32(k)))
				all = append(all, rank)
			}
		}
		slices.Sort(all)
		all = slices.Compact(all)
		var sent []int64
		got := make([]int, count)
		for range 200 * len(all) {
			level := int64(1)
			for _, n := range nodes {
				level = min(level, impl.Drives(n))
			}
			for i := range nodes {
				var told impl.Happen
				nodes[i], told = impl.Sampled(nodes[i], level)
				switch told.Kind {
				case impl.HpSent:
					sent = append(sent, rankByEye(told.Frame))
				case impl.HpGot:
					got[i]++
				case impl.HpErr, impl.HpOff, impl.HpBack, impl.HpFull:
					t.Fatalf("node %d tells %+v", i, told)
				}
			}
		}
		if !slices.Equal(sent, all) {
			t.Fatalf("%v were sent, not %v", sent, all)
		}
		for i, n := range nodes {
			if !sameNodes(n, impl.Node{Fifo: n.Fifo}) || len(n.Fifo) != got[i] || got[i] >= len(all) || got[i] < len(all)-3 {
				t.Fatalf("node %d has heard %d of %d, and is %+v", i, got[i], len(all), n)
			}
		}
	}
}

// dice are numbers without a plain pattern, each the same in each run.
type dice uint32

func (d *dice) below(count int) int {
	*d = *d*1664525 + 1013904223
	return int(uint64(*d>>8) * uint64(count) >> 24)
}

// someNode is a right node, of all that its fields may be; many of them are at an edge.
func someNode(d *dice, fifo []impl.Frame) impl.Node {
	boxes := [][]impl.Frame{nil, boxOf(10), boxOf(3, 700, 701), fullBox()}
	frames := []impl.Frame{{}, boxOf(10)[0], boxOf(700)[0], dataFrame(5, 1, 2), remoteFrame(2047, 8)}
	gots := []string{"", "0", mixed(1+d.below(18), uint32(*d)), mixed(19+d.below(79), uint32(*d)), saidByEye(frames[3]), saidByEye(frames[4]), turnedOver(saidByEye(frames[3]), 30)}
	counts := []int64{0, 1, 119, 120, 127, 128, 247, 248, 255, 256, 999, 1000}
	lefts := []int64{0, 1, 2, 3, 6, 8, 127, 128}
	n := impl.Node{
		Phase: int64(d.below(8)), Tx: d.below(2) == 1, Mild: d.below(2) == 1, Bad: d.below(3) == 1, Frame: frames[d.below(len(frames))], Got: gots[d.below(len(gots))],
		Run: int64(d.below(12)), Last: int64(d.below(2)), At: int64(d.below(10)), Left: lefts[d.below(len(lefts))],
		Count: impl.Count{Sent: counts[d.below(len(counts))], Got: counts[d.below(len(counts))]}, Box: boxes[d.below(len(boxes))],
		Fifo: fifo[:[]int{0, 1, 31, 32}[d.below(4)]], Filters: [][]impl.Filter{nil, {forAll}, {forOne(5)}, {forOne(2047), {Mask: 1}}}[d.below(4)],
	}
	if n.Phase == impl.PhTail && d.below(3) == 0 {
		n.At = 8
	}
	if n.Phase != impl.PhBody {
		return n
	}
	n.Run = 1 + n.Run%5
	switch {
	case n.Tx:
		n.Box = append(boxOf(1), n.Frame)
		if rankByEye(n.Frame) == 0 {
			n.Box = []impl.Frame{n.Frame, boxOf(1)[0]}
		}
		said := saidByEye(n.Frame)
		n.Got = said[:1+d.below(len(said))]
	case n.Got == "":
		n.Got = "0"
	}
	if wholeByEye(n.Got) {
		n.Run = 5
	}
	return n
}

// Promise 12: any right node, any level and any frame: what comes out is right, and told alike in the other way.
func TestPromise12(t *testing.T) {
	d, fifo := dice(12), heard(32)
	met := map[[2]int64]int{}
	for range 4000 {
		n := someNode(&d, fifo)
		if !impl.NodeOk(n) {
			t.Fatalf("%+v is not right", n)
		}
		for level := range int64(2) {
			met[[2]int64{n.Phase, checkSampledByEye(t, n, level)}]++
		}
		f := frameOfRank(int64(d.below(4096)), uint32(d))
		if d.below(3) == 0 {
			f = n.Frame
		}
		want, code := queuedByEye(n, f)
		checkQueued(t, n, f, want, code)
		checkSending(t, n, sendingByEye(n))
	}
	for _, c := range [][2]int64{{0, 0}, {1, 0}, {1, 4}, {1, 5}, {2, 0}, {2, 1}, {2, 2}, {2, 3}, {2, 4}, {2, 5}, {3, 0}, {4, 0}, {5, 0}, {6, 0}, {7, 0}, {7, 6}} {
		if met[c] < 10 {
			t.Errorf("in phase %d only %d have told %d", c[0], met[c], c[1])
		}
	}
	if len(met) != 16 {
		t.Error(met)
	}
}

// levelsFor is a way in which levels come about for a while: what the node drives, with an answer and with some bits
// turned over or not; the bits of a frame that another one says; and such without a pattern.
func levelsFor(d *dice, way int) func(n impl.Node) int64 {
	f := frameOfRank(int64(d.below(4096)), uint32(*d))
	foreign := "11" + impl.WireOf(f) + "111"
	foreign = turnedOver(foreign, len(foreign)-12)
	place := -1
	return func(n impl.Node) int64 {
		place++
		level := impl.Drives(n)
		if n.Phase == impl.PhTail && n.At == 1 {
			level = 0
		}
		switch {
		case way == 0, way == 1 && d.below(60) > 0:
		case way == 1:
			level = 1 - level
		case way == 2 && n.Phase != impl.PhIdle && !n.Tx, way == 3 && d.below(40) > 0:
			level = int64(foreign[place%len(foreign)] - '0')
		case way == 4:
			level = 1
		case way == 5 && n.Tx && d.below(8) == 0:
			level = 1 - level
		case way == 6:
			level = int64(d.below(2))
		case way == 7:
			level = int64(min(d.below(9), 1))
		}
		return level
	}
}

// Promise 12, on and on: of long runs of right nodes over many levels each node that comes out is right, and told alike
// in the other way.
func TestPromise12LongRuns(t *testing.T) {
	kinds, phases := map[int64]int{}, map[int64]int{}
	for seed := range 32 {
		d := dice(seed)
		n, _ := impl.NewNode([][]impl.Filter{nil, {{Mask: 1, Code: 1}}, {forAll}}[seed%3])
		if seed%4 == 3 {
			n = someNode(&d, heard(32))
		}
		for part := range 14 {
			next := levelsFor(&d, (d.below(8)+part*(seed%2))%8)
			for range []int{30, 140, 400}[d.below(3)] {
				if d.below(50) == 0 {
					f := frameOfRank(int64(d.below(40)), uint32(d))
					want, code := queuedByEye(n, f)
					with, told := impl.Queued(n, f)
					if told != code || !sameNodes(with, want) || !impl.NodeOk(with) {
						t.Fatalf("%+v queued at %+v: %d, %+v", f, n, told, with)
					}
					n = with
				}
				level := next(n)
				want, happen := sampledByEye(n, level)
				after, told := impl.Sampled(n, level)
				if !sameNodes(after, want) || !sameHappens(told, happen) || !impl.NodeOk(after) {
					t.Fatalf("%+v at %d:\n%+v, %+v, not\n%+v, %+v", n, level, after, told, want, happen)
				}
				kinds[told.Kind]++
				phases[after.Phase]++
				n = after
			}
		}
		// Who is off comes back at last, if the wire is up long enough; who is not is still in the end.
		for range 1500 {
			n, _ = impl.Sampled(n, 1)
		}
		if n.Phase != impl.PhIdle || n.Tx || n.Got != "" || !sameFrames(n.Frame, impl.Frame{}) {
			t.Fatalf("it is not still: %+v", n)
		}
	}
	for kind := range int64(6) {
		if kinds[kind] < 5 {
			t.Errorf("only %d have told %d", kinds[kind], kind)
		}
	}
	for phase := range int64(8) {
		if phases[phase] < 20 {
			t.Errorf("only %d were in phase %d", phases[phase], phase)
		}
	}
}

func sameFrames(a, b impl.Frame) bool {
	return slices.Equal(flat(a), flat(b))
}

// Promise 20, for this layer: every function answers at every argument and none panics; no argument is written into,
// nor the spare room behind it.
func TestSamplesAnswerAtAll(t *testing.T) {
	numbers := append([]int64{0, 1, 2, 5, 7, 8, 9, 11, 98, 128, 129, 1000}, farNumbers...)
	huge := impl.Frame{Len: 8, Data: make([]int64, 1000)}
	gots := append([]string{"", "0", mixed(19, 1), mixed(98, 2), mixed(99, 2), strings.Repeat("0", 1<<16), strings.Repeat("\xff", 98)}, notBits...)
	lists := [][]impl.Frame{nil, {}, fullBox(), wrongEach(), heard(300), {huge}, {{}, dataFrame(5, 1, 2)}}
	filters := [][]impl.Filter{nil, {}, {forAll}, {{Mask: -1}}, slices.Repeat([]impl.Filter{forOne(5)}, 3000)}
	frames := slices.Concat(rightFrames(), wrongFrames(), []impl.Frame{huge, {}})
	d, fifo := dice(20), heard(32)
	for range 3000 {
		number := func() int64 { return numbers[d.below(len(numbers))] }
		n := someNode(&d, fifo)
		for _, spoil := range []func(){
			func() { n.Phase = number() }, func() { n.Run, n.Last = number(), number() }, func() { n.At, n.Left = number(), number() }, func() { n.Count = impl.Count{Sent: number(), Got: number()} },
			func() { n.Got = gots[d.below(len(gots))] }, func() { n.Box = lists[d.below(len(lists))] }, func() { n.Fifo = lists[d.below(len(lists))] },
			func() { n.Filters = filters[d.below(len(filters))] }, func() { n.Frame = frames[d.below(len(frames))] }, func() { n.Tx = !n.Tx },
		} {
			if d.below(6) == 0 {
				spoil()
			}
		}
		given, held := nodeWithRoom(n)
		f, room := withRoom(frames[d.below(len(frames))])
		before, roomBefore := held(), slices.Clone(room)
		mustAnswer(t, func() {
			impl.Sampled(given, 0)
			impl.Sampled(given, 1)
			impl.Sampled(given, number())
			impl.Queued(given, f)
			impl.Sending(given)
		}, n, f)
		if !slices.Equal(held(), before) || !slices.Equal(room, roomBefore) {
			t.Fatalf("%+v or %+v, or the room behind them, is changed", n, f)
		}
	}
}

// Promise 20, for this layer: an answer is new memory also where the lists of the node, and what is queued, share memory
// with one another.
func TestSamplesAreNew(t *testing.T) {
	shared := []int64{1, 2, 3, 4, 5, 6, 7, 8, 9}
	of := func(id int64, size int) impl.Frame { return impl.Frame{Id: id, Len: int64(size), Data: shared[:size]} }
	box := []impl.Frame{of(1, 8), of(2, 0), of(3, 4), of(4, 8)}
	held := func() []int64 { return append(slices.Clone(shared), flatAll(box)...) }
	f := of(1, 8)
	base := impl.Node{Frame: f, Box: box, Fifo: box, Filters: []impl.Filter{forAll, forOne(1)}, Got: saidByEye(f), Tx: true, Left: 1, Run: 10}
	nodes := []impl.Node{with(sendingOf(f, 5), func(n *impl.Node) { n.Box, n.Fifo = box, box })}
	for at := range int64(10) {
		base.At = at
		eachPhase(base, func(n impl.Node) { nodes = append(nodes, n, with(n, func(n *impl.Node) { n.Tx = false })) })
	}
	kinds := map[int64]int{}
	for _, n := range nodes {
		for level := range int64(2) {
			want, happen := sampledByEye(n, level)
			// What must be answered is told of the same memory: it is set aside ahead of the writing.
			want, _ = nodeWithRoom(want)
			happen.Frame, _ = withRoom(happen.Frame)
			after, told := impl.Sampled(n, level)
			second, other := impl.Sampled(n, level)
			if !sameNodes(after, want) || !sameHappens(told, happen) {
				t.Fatalf("%+v at %d: %+v, %+v", n, level, after, told)
			}
			kinds[told.Kind]++
			checkOwnNode(t, after, told.Frame, held, func() []int64 { return append(flatNode(second), flat(other.Frame)...) })
		}
		for _, g := range []impl.Frame{of(0, 8), of(3, 4), of(9, 0), f, {Id: -1, Data: shared}} {
			after, _ := impl.Queued(n, g)
			second, _ := impl.Queued(n, g)
			checkOwnNode(t, after, impl.Frame{}, held, func() []int64 { return flatNode(second) })
		}
	}
	for _, kind := range []int64{impl.HpNone, impl.HpSent, impl.HpGot, impl.HpErr, impl.HpBack} {
		if kinds[kind] == 0 {
			t.Errorf("none has told %d", kind)
		}
	}
}

// Promise 20, for this layer: nothing is kept from call to call; another call tells what was changed in between.
func TestSamplesKeepNothing(t *testing.T) {
	f := dataFrame(5, 1, 2)
	n := inTailOf(f, 8, false)
	idle := impl.Node{Box: []impl.Frame{f}}
	for range 3 {
		checkSampledByEye(t, n, 1)
		n.Filters[1].Code = 0
		if kind := checkSampledByEye(t, n, 1); kind != impl.HpNone {
			t.Fatalf("it tells %d", kind)
		}
		n.Filters[1].Code = 1
		if kind := checkSampledByEye(t, n, 1); kind != impl.HpGot {
			t.Fatalf("it tells %d", kind)
		}
		f.Data[1] = 77
		after, _ := impl.Sampled(idle, 0)
		f.Data[1] = 2
		if after.Frame.Data[1] != 77 || after.Box[0].Data[1] != 77 {
			t.Fatalf("what was answered has become %+v", after)
		}
		checkSampledByEye(t, idle, 0)
		f.Data[1] = 256
		checkRefused(t, idle)
		f.Data[1] = 2
		checkBreaksOff(t, n, 0)
		checkSampledByEye(t, n, 1)
	}
}
