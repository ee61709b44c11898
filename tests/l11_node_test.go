package tests

import (
	"fmt"
	"regexp"
	"slices"
	"strings"
	"testing"

	"loop.example/g00753/impl"
)

var gotInRange = regexp.MustCompile(`\A[01]{0,98}\z`)

// saidByEye is all that the frame says, check included, but not stuffed.
func saidByEye(f impl.Frame) string {
	return checked(bodyByEye(f))
}

func wholeByEye(got string) bool {
	need := needByEye(got)
	return need != -1 && len(got) >= int(need)
}

func filtersByEye(list []impl.Filter) bool {
	return len(list) < 9 && !slices.ContainsFunc(list, func(f impl.Filter) bool { return !rightId(f.Mask) || !rightId(f.Code) })
}

// bodyNodeByEye asks what is wanted in PhBody alone.
func bodyNodeByEye(n impl.Node) bool {
	switch {
	case n.Got == "", !slices.Contains([]int64{1, 2, 3, 4, 5}, n.Run):
		return false
	case wholeByEye(n.Got) && n.Run < 5:
		return false
	case !n.Tx:
		return true
	}
	own := slices.ContainsFunc(n.Box, func(g impl.Frame) bool { return slices.Equal(flat(g), flat(n.Frame)) })
	said := saidByEye(n.Frame)
	return own && len(n.Got) <= len(said) && said[:len(n.Got)] == n.Got
}

// nodeByEye tells in another way than the program whether a node is right: a number below 0 is huge here.
func nodeByEye(n impl.Node) bool {
	for _, c := range [][2]int64{{n.Phase, 7}, {n.Run, 11}, {n.Last, 1}, {n.At, 9}, {n.Left, 128}, {n.Count.Sent, 1000}, {n.Count.Got, 1000}} {
		if uint64(c[0]) > uint64(c[1]) {
			return false
		}
	}
	wrong := func(f impl.Frame) bool { return !rightByEye(f) }
	if !gotInRange.MatchString(n.Got) || wrong(n.Frame) || !boxByEye(n.Box) || !filtersByEye(n.Filters) {
		return false
	}
	return len(n.Fifo) < 33 && !slices.ContainsFunc(n.Fifo, wrong) && (n.Phase != 1 || bodyNodeByEye(n))
}

// nextByEye reads on in what the frame says, and in ones behind that.
func nextByEye(n impl.Node) int64 {
	switch {
	case !nodeByEye(n), n.Phase != 1:
		return 1
	case n.Run == 5:
		return []int64{1, 0}[n.Last]
	}
	return numberByEye((saidByEye(n.Frame) + strings.Repeat("1", 98))[len(n.Got):][:1])
}

func drivesByEye(n impl.Node) int64 {
	down := map[int64]bool{
		impl.PhIdle: len(n.Box) > 0,
		impl.PhBody: n.Tx && nextByEye(n) == 0,
		impl.PhTail: n.At == 1 && !(n.Tx || n.Bad),
		impl.PhFlag: !n.Mild,
	}
	if nodeByEye(n) && down[n.Phase] {
		return 0
	}
	return 1
}

// filtersWithRoom are these filters in new memory, ahead of some that are not right, and all of these.
func filtersWithRoom(list []impl.Filter) (filters, all []impl.Filter) {
	all = append(slices.Clone(list), impl.Filter{Mask: -1}, impl.Filter{Code: 2048}, impl.Filter{})
	return all[:len(list)], all
}

// nodeWithRoom is the node in new memory, with room behind each of its lists and behind all Data; it answers the node,
// and what all of that memory holds, one number behind the other.
func nodeWithRoom(n impl.Node) (impl.Node, func() []int64) {
	frame, room := withRoom(n.Frame)
	box, boxHeld := listWithRoom(n.Box)
	fifo, fifoHeld := listWithRoom(n.Fifo)
	filters, all := filtersWithRoom(n.Filters)
	n.Frame, n.Box, n.Fifo, n.Filters = frame, box, fifo, filters
	return n, func() []int64 {
		held := slices.Concat(room, boxHeld(), fifoHeld())
		for _, f := range all {
			held = append(held, f.Mask, f.Code)
		}
		return held
	}
}

// checkGives fails where NodeOk, NextBit and Drives are not as wanted.
func checkGives(t *testing.T, n impl.Node, ok bool, next, drives int64) {
	t.Helper()
	if told := impl.NodeOk(n); told != ok {
		t.Fatalf("NodeOk %+v: %v", n, told)
	}
	if told := impl.NextBit(n); told != next {
		t.Fatalf("NextBit %+v: %d", n, told)
	}
	if told := impl.Drives(n); told != drives {
		t.Fatalf("Drives %+v: %d", n, told)
	}
}

// checkNode holds what is answered against what is told in the other way, and fails where the node is written into, or
// the room behind its lists.
func checkNode(t *testing.T, n impl.Node, ok bool) {
	t.Helper()
	given, held := nodeWithRoom(n)
	before := held()
	checkGives(t, given, ok, nextByEye(n), drivesByEye(n))
	if nodeByEye(n) != ok {
		t.Fatalf("%+v is not told in the other way", n)
	}
	if !slices.Equal(held(), before) {
		t.Fatalf("%+v, or the room behind it, is changed", n)
	}
}

// hearing is a node that has seen these bits of a frame, and sends none.
func hearing(got string, run int64) impl.Node {
	return impl.Node{Phase: impl.PhBody, Got: got, Run: run}
}

// sendingOf is a node that has said so many bits of the frame.
func sendingOf(f impl.Frame, size int) impl.Node {
	n := hearing(saidByEye(f)[:size], 1)
	n.Tx, n.Frame, n.Box = true, f, []impl.Frame{f}
	if wholeByEye(n.Got) {
		n.Run = 5
	}
	return n
}

// eachPhase is the node in each Phase but PhBody.
func eachPhase(n impl.Node, call func(n impl.Node)) {
	for _, phase := range []int64{0, 2, 3, 4, 5, 6, 7} {
		n.Phase = phase
		call(n)
	}
}

// rightNodes are right nodes of each Phase, some with much in them.
func rightNodes() []impl.Node {
	var list []impl.Node
	fifo := heard(32)
	for _, f := range []impl.Frame{{}, dataFrame(5, 1, 2)} {
		full := impl.Node{Frame: f, Box: fullBox(), Fifo: fifo, Filters: slices.Repeat([]impl.Filter{forOne(5)}, 8), Got: mixed(98, 3), Run: 5, Last: 1, At: 1, Left: 128, Count: impl.Count{Sent: 1000, Got: 1000}}
		loud := full
		loud.Tx, loud.Mild, loud.Bad = true, true, true
		for _, n := range []impl.Node{{Frame: f, At: 1, Box: []impl.Frame{f}}, {Frame: f, Tx: true}, full, loud} {
			eachPhase(n, func(n impl.Node) { list = append(list, n) })
		}
		list = append(list, sendingOf(f, 1), sendingOf(f, 12), sendingOf(f, len(saidByEye(f))), hearing(saidByEye(f)[:20], 4), hearing(mixed(98, 3), 5))
	}
	n := sendingOf(remoteFrame(10, 4), 8)
	n.Box, n.Fifo, n.Filters, n.Count, n.Left = boxOf(everySecond(5, 16)...), fifo, []impl.Filter{forAll}, impl.Count{Sent: 1000}, 128
	n.Box[8] = n.Frame
	return append(list, n, sendingOf(eightOf(2047, 255), 98), hearing("1", 1))
}

func TestNodeConstants(t *testing.T) {
	if impl.MaxGot != 98 || impl.MaxFilters != 8 {
		t.Errorf("MaxGot is %d, MaxFilters %d", impl.MaxGot, impl.MaxFilters)
	}
	phases := []int64{impl.PhIdle, impl.PhBody, impl.PhTail, impl.PhFlag, impl.PhDelim, impl.PhInter, impl.PhWait, impl.PhOff}
	if !slices.Equal(phases, upTo(0, 7)) {
		t.Errorf("the phases are %v", phases)
	}
}

// Each number at both its ends and one past them, and far; the zero Node is right.
func TestNodeNumbers(t *testing.T) {
	checkNode(t, impl.Node{}, true)
	for _, c := range []struct {
		most int64
		with func(n *impl.Node, number int64)
	}{
		{7, func(n *impl.Node, number int64) { n.Phase = number }},
		{11, func(n *impl.Node, number int64) { n.Run = number }},
		{1, func(n *impl.Node, number int64) { n.Last = number }},
		{9, func(n *impl.Node, number int64) { n.At = number }},
		{128, func(n *impl.Node, number int64) { n.Left = number }},
		{1000, func(n *impl.Node, number int64) { n.Count.Sent = number }},
		{1000, func(n *impl.Node, number int64) { n.Count.Got = number }},
	} {
		for _, base := range rightNodes() {
			for _, number := range append([]int64{-2, -1, c.most + 1, c.most + 2, 2 * c.most, 2*c.most + 2}, farNumbers...) {
				n := base
				c.with(&n, number)
				checkNode(t, n, false)
			}
		}
		eachPhase(impl.Node{At: 1, Box: []impl.Frame{{}}}, func(n impl.Node) {
			for number := range c.most + 1 {
				with := n
				c.with(&with, number)
				// In PhBody Got is wanted, too: that one is not right, whatever the number is.
				checkNode(t, with, with.Phase != impl.PhBody)
			}
		})
	}
}

// How many there may be, in each Phase: one more is not right, whatever else is.
func TestNodeSizes(t *testing.T) {
	fifo := heard(34)
	for _, base := range rightNodes() {
		for _, size := range []int{0, 1, 97, 98, 99, 100, 400, 401} {
			n := base
			n.Got = mixed(size, 7)
			if n.Phase != impl.PhBody {
				checkNode(t, n, size <= 98)
				continue
			}
			n.Tx, n.Run = false, 5
			checkNode(t, n, size >= 1 && size <= 98)
		}
		for size := range 35 {
			n := base
			n.Fifo = fifo[:size]
			checkNode(t, n, size <= 32)
		}
		for size := range 11 {
			n := base
			n.Filters = slices.Repeat([]impl.Filter{forOne(7)}, size)
			checkNode(t, n, size <= 8)
		}
		for _, size := range []int64{0, 1, 15, 16, 17, 18, 40} {
			n := base
			n.Box = boxOf(upTo(40, 39+size)...)
			checkNode(t, n, size <= 16 && !(n.Tx && n.Phase == impl.PhBody))
		}
	}
}

// A letter that is no bit, at the first place, in the middle and at the last, in each Phase.
func TestNodeGotIsBits(t *testing.T) {
	for _, base := range rightNodes() {
		for _, s := range notBits {
			n := base
			for _, got := range []string{s, s + "0", "01" + s, "01" + s + "01"} {
				n.Got = got
				checkNode(t, n, false)
			}
		}
	}
}

// One frame, filter or Count that is not right, first, in the middle and last.
func TestNodeWrongParts(t *testing.T) {
	fifo := heard(32)
	for _, base := range rightNodes() {
		for _, wrong := range wrongEach() {
			n := base
			n.Frame = wrong
			checkNode(t, n, false)
			for _, place := range []int{0, 1, 16, 30, 31} {
				n = base
				n.Fifo = slices.Replace(slices.Clone(fifo), place, place+1, wrong)
				checkNode(t, n, false)
			}
			n = base
			n.Fifo = []impl.Frame{wrong}
			checkNode(t, n, false)
		}
		for _, box := range wrongBoxes() {
			n := base
			n.Box = box
			checkNode(t, n, false)
		}
		for _, number := range []int64{-1, 2048, farNumbers[0], farNumbers[len(farNumbers)-1]} {
			for _, wrong := range []impl.Filter{{Mask: number}, {Code: number}, {Mask: number, Code: number}} {
				for place := range 8 {
					n := base
					n.Filters = slices.Repeat([]impl.Filter{forAll}, 8)
					n.Filters[place] = wrong
					checkNode(t, n, false)
				}
				n := base
				n.Filters = []impl.Filter{wrong}
				checkNode(t, n, false)
			}
		}
	}
	wrong := wrongCounts()
	for i, base := range rightNodes() {
		for k := i % 11; k < len(wrong); k += 11 {
			n := base
			n.Count = wrong[k]
			checkNode(t, n, false)
		}
	}
}

// wrongBoxes have all frames in them that rightNodes have, but for what is wrong.
func wrongBoxes() [][]impl.Frame {
	f, g := dataFrame(5, 1, 2), remoteFrame(5, 8)
	last := eightOf(2047, 255)
	return [][]impl.Frame{
		{{}, f, f, g, last}, {{}, g, f, last}, {{}, f, dataFrame(5), g, last}, {{}, f, g, last, {Id: 2048}}, {{}, f, g, last, last},
		{{Id: -1}, {}, f, g, last}, {{}, dataFrame(4, 256), f, g, last}, {last, {}, f, g}, {{}, {}, f, g, last},
		append(append([]impl.Frame{{}, f, g}, boxOf(upTo(12, 24)...)...), last), append(fullBox(), last), {f, {}}, {{Id: -1}},
	}
}

func TestNodesInBodyByHand(t *testing.T) {
	remote := checked("0000000101011001000")
	long := "0000000101000001000" + mixed(79, 5)
	over := "0000000101000001001" + mixed(79, 6)
	none := "0000000101000000000" + mixed(79, 8)
	for _, c := range []struct {
		got    string
		hard   bool
		inFive bool
	}{
		// What is right with a Run from 1 to 4, and with Run 5.
		{"", false, false}, {"0", true, true}, {"1", true, true}, {"01", true, true}, {mixed(18, 1), true, true},
		// Remote, so it is whole with 34 bits, whatever its Len.
		{remote[:19], true, true}, {remote[:33], true, true}, {remote, false, true}, {remote + "0", false, true}, {remote + mixed(64, 2), false, true}, {remote + mixed(65, 2), false, false},
		// 8 bytes: it is not whole with 34 bits, nor with 97, and may not be longer than whole.
		{long[:19], true, true}, {long[:34], true, true}, {long[:97], true, true}, {long, false, true}, {long + "1", false, false},
		// A Len of 9 is as if it were 8; one of 0 needs 34.
		{over[:34], true, true}, {over[:97], true, true}, {over, false, true}, {none[:33], true, true}, {none[:34], false, true}, {none[:35], false, true}, {none, false, true},
		{"0x", false, false}, {"x", false, false}, {"2", false, false},
	} {
		for run := int64(-1); run <= 12; run++ {
			want := c.hard
			if run == 5 {
				want = c.inFive
			}
			checkNode(t, hearing(c.got, run), want && run >= 1 && run <= 5)
		}
	}
}

// Each head, and each way to be not whole, just whole and longer.
func TestNodesInBodyEachHead(t *testing.T) {
	right := 0
	eachHead(func(head string) {
		need := int(needByEye(head))
		for _, size := range []int{18, 19, need - 1, need, need + 1, 97, 98, 99} {
			got := (head + mixed(80, uint32(size)))[:size]
			for _, run := range []int64{0, 1, 4, 5, 6} {
				ok := size <= 98 && run >= 1 && (run < 5 && size < need || run == 5)
				n := hearing(got, run)
				n.Last = run % 2
				checkGives(t, n, ok, nextByEye(n), 1)
				if nodeByEye(n) != ok {
					t.Fatalf("%+v is not told in the other way", n)
				}
				if ok {
					right++
				}
			}
		}
	})
	if right < 10000 {
		t.Errorf("only %d are right", right)
	}
}

// checkAsked fails where a node that sends is not told as wanted, and where all that it has is not right as soon as it
// does not send, or is not in PhBody: nothing of this is asked then.
func checkAsked(t *testing.T, n impl.Node, ok bool) {
	t.Helper()
	checkNode(t, n, ok)
	n.Tx = false
	checkNode(t, n, true)
	for _, tx := range []bool{false, true} {
		n.Tx = tx
		eachPhase(n, func(n impl.Node) { checkNode(t, n, true) })
	}
}

// Where Tx, Got is the beginning of what Frame says: at each size, with each one bit turned over, and one that goes on.
func TestSendingNodesSayTheirFrame(t *testing.T) {
	for _, f := range []impl.Frame{{}, dataFrame(1365, 7, 200), remoteFrame(3, 8), eightOf(2047, 255), dataFrame(62, 16, 120, 3, 254)} {
		said := saidByEye(f)
		for size := 1; size <= len(said); size++ {
			checkAsked(t, sendingOf(f, size), true)
			n := sendingOf(f, size)
			for run := int64(0); run < 7; run++ {
				n.Run = run
				checkNode(t, n, run == 5 || run >= 1 && run < 5 && size < len(said))
			}
			n.Run = 5
			for place := range size {
				n.Got = turnedOver(said[:size], place)
				checkNode(t, n, false)
			}
			checkAsked(t, n, false)
		}
		n := sendingOf(f, len(said))
		for _, more := range []string{"0", "1", "11", mixed(64, 1)} {
			n.Got = said + more
			if len(n.Got) > 98 {
				checkNode(t, n, false)
			} else {
				checkAsked(t, n, false)
			}
		}
		n.Got = ""
		checkNode(t, n, false)
		// What is said stuffed is another thing.
		if stuffed := stuffedByEye(said); stuffed != said {
			n.Got = stuffed[:min(len(stuffed), len(said))]
			checkAsked(t, n, false)
		}
		n.Got = inverse(said)
		checkAsked(t, n, false)
	}
}

// Where Tx, Frame is in Box: at each place of it, had there by another frame of its rank, and by none.
func TestSendingNodesHaveTheirFrame(t *testing.T) {
	full := fullBox()
	for place, f := range full {
		others := []impl.Frame{frameOfRank(rankByEye(f), 77)}
		if f.Remote {
			others = append(others, remoteFrame(f.Id, (f.Len+1)%9))
		} else {
			others = append(others, dataFrame(f.Id, slices.Repeat([]int64{9}, len(f.Data)+1)[:(len(f.Data)+1)%9]...))
			for i, b := range f.Data {
				others = append(others, changedAt(f, i, b^1))
			}
		}
		for _, size := range []int{1, 5, 12} {
			n := sendingOf(f, size)
			checkAsked(t, n, true)
			n.Box = fullBox()
			checkAsked(t, n, true)
			for _, other := range others {
				n.Box = slices.Replace(fullBox(), place, place+1, other)
				checkAsked(t, n, slices.Equal(flat(f), flat(other)))
				n.Box = []impl.Frame{other}
				checkAsked(t, n, slices.Equal(flat(f), flat(other)))
			}
			n.Box = slices.Delete(fullBox(), place, place+1)
			checkAsked(t, n, false)
			n.Box = []impl.Frame{frameOfRank(rankByEye(f)^1, 7)}
			checkAsked(t, n, false)
			n.Box = nil
			checkAsked(t, n, false)
		}
	}
	// The zero Frame is asked for as any other one.
	n := sendingOf(impl.Frame{}, 4)
	for _, box := range [][]impl.Frame{nil, {}, {dataFrame(1)}, {remoteFrame(0, 0)}, {dataFrame(0, 0)}} {
		n.Box = box
		checkAsked(t, n, false)
	}
}

func TestNextBitsByHand(t *testing.T) {
	f := impl.Frame{Id: 1024}
	box := []impl.Frame{f}
	long := "0000000101000001000" + mixed(78, 5)
	for _, c := range []struct {
		n            impl.Node
		next, drives int64
	}{
		// The Id is 1 and ten noughts; behind five alike one is put in.
		{impl.Node{Phase: 1, Tx: true, Frame: f, Box: box, Got: "0", Run: 1}, 1, 1}, {impl.Node{Phase: 1, Tx: true, Frame: f, Box: box, Got: "01", Run: 1, Last: 1}, 0, 0},
		{impl.Node{Phase: 1, Tx: true, Frame: f, Box: box, Got: "010000", Run: 4}, 0, 0}, {impl.Node{Phase: 1, Tx: true, Frame: f, Box: box, Got: "0100000", Run: 5}, 1, 1},
		{impl.Node{Phase: 1, Tx: true, Frame: f, Box: box, Got: "0100000", Run: 1, Last: 1}, 0, 0},
		// Run 5, with Last 0 and 1, whatever the frame would say.
		{impl.Node{Phase: 1, Tx: true, Frame: f, Box: box, Got: "0", Run: 5, Last: 1}, 0, 0}, {impl.Node{Phase: 1, Tx: true, Frame: f, Box: box, Got: "01", Run: 5}, 1, 1},
		{impl.Node{Phase: 1, Got: "0", Run: 5}, 1, 1}, {impl.Node{Phase: 1, Got: "0", Run: 5, Last: 1}, 0, 1}, {impl.Node{Phase: 1, Frame: f, Got: "1", Run: 5, Last: 1}, 0, 1},
		// Who does not send would say the same bit, but gives 1; Got needs not be of that frame then.
		{impl.Node{Phase: 1, Frame: f, Box: box, Got: "01", Run: 1, Last: 1}, 0, 1}, {impl.Node{Phase: 1, Frame: f, Got: "1", Run: 1}, 1, 1}, {impl.Node{Phase: 1, Got: "111", Run: 3, Last: 1}, 0, 1},
		// Got as long as all that the frame says, or longer, but not whole itself; ahead of that the last bit of the check.
		{impl.Node{Phase: 1, Got: long[:33], Run: 1}, 0, 1}, {impl.Node{Phase: 1, Got: long[:34], Run: 1}, 1, 1}, {impl.Node{Phase: 1, Got: long[:35], Run: 1}, 1, 1}, {impl.Node{Phase: 1, Got: long[:97], Run: 1}, 1, 1},
		{impl.Node{Phase: 1, Got: long[:34], Run: 5}, 1, 1}, {impl.Node{Phase: 1, Got: long[:34], Run: 5, Last: 1}, 0, 1}, {impl.Node{Phase: 1, Got: long[:90], Run: 5, Last: 1}, 0, 1},
		// In each other Phase, with all that would be said in PhBody.
		{impl.Node{Phase: 0, Tx: true, Frame: f, Box: box, Got: "01", Run: 5, Last: 1}, 1, 0}, {impl.Node{Phase: 2, Tx: true, Frame: f, Box: box, Got: "01", Run: 5, Last: 1}, 1, 1},
		{impl.Node{Phase: 3, Tx: true, Frame: f, Box: box, Got: "01", Run: 5, Last: 1}, 1, 0}, {impl.Node{Phase: 4, Tx: true, Frame: f, Box: box, Got: "01", Run: 5, Last: 1}, 1, 1},
		{impl.Node{Phase: 5, Tx: true, Frame: f, Box: box, Got: "01", Run: 5, Last: 1}, 1, 1}, {impl.Node{Phase: 6, Tx: true, Frame: f, Box: box, Got: "01", Run: 5, Last: 1}, 1, 1},
		{impl.Node{Phase: 7, Tx: true, Frame: f, Box: box, Got: "01", Run: 5, Last: 1}, 1, 1}, {impl.Node{Phase: 7, Got: "0", Run: 1, Box: box}, 1, 1},
		// The levels of the tail and of the flag.
		{impl.Node{Phase: 2}, 1, 1}, {impl.Node{Phase: 2, At: 1}, 1, 0}, {impl.Node{Phase: 2, At: 2}, 1, 1}, {impl.Node{Phase: 2, At: 1, Tx: true}, 1, 1}, {impl.Node{Phase: 2, At: 1, Bad: true}, 1, 1},
		{impl.Node{Phase: 2, At: 1, Mild: true, Box: box}, 1, 0}, {impl.Node{Phase: 3}, 1, 0}, {impl.Node{Phase: 3, Mild: true}, 1, 1}, {impl.Node{Phase: 3, Left: 6, At: 1, Tx: true, Bad: true}, 1, 0},
	} {
		given, held := nodeWithRoom(c.n)
		before := held()
		checkGives(t, given, true, c.next, c.drives)
		if nextByEye(c.n) != c.next || drivesByEye(c.n) != c.drives || !slices.Equal(held(), before) {
			t.Errorf("%+v is not told in the other way, or is changed", c.n)
		}
	}
}

// At each place of each frame, Tx and not; with Run 5 it is the other one than Last.
func TestNextBitsOfFrames(t *testing.T) {
	for _, f := range rightFrames() {
		said := saidByEye(f)
		if whole, _ := impl.WithCheck(impl.BodyOf(f)); whole != said {
			t.Fatalf("%+v: %q, not %q", f, whole, said)
		}
		for size := 1; size < len(said); size++ {
			next := int64(said[size] - '0')
			n := sendingOf(f, size)
			for run := int64(1); run <= 4; run++ {
				n.Run, n.Last = run, run%2
				checkGives(t, n, true, next, next)
			}
			silent := n
			silent.Tx, silent.Box = false, nil
			checkGives(t, silent, true, next, 1)
			for last := range int64(2) {
				n.Run, n.Last, silent.Run, silent.Last = 5, last, 5, last
				checkGives(t, n, true, 1-last, 1-last)
				checkGives(t, silent, true, 1-last, 1)
			}
		}
		n := sendingOf(f, len(said))
		checkGives(t, n, true, 1, 1)
		n.Last = 1
		checkGives(t, n, true, 0, 0)
	}
}

// Each Phase with Box empty and not, Tx, Mild and Bad, At from 0 to 9: what each of them gives is written out.
func TestDrivesEachPhase(t *testing.T) {
	f := dataFrame(5, 1, 2)
	down := 0
	for n := range 8 * 2 * 8 * 10 {
		phase, boxed, tx, mild, bad, at := int64(n%8), n/8%2 == 1, n/16%2 == 1, n/32%2 == 1, n/64%2 == 1, int64(n/128)
		node := impl.Node{Phase: phase, Tx: tx, Mild: mild, Bad: bad, At: at}
		if boxed {
			node.Box = []impl.Frame{f}
		}
		if phase == impl.PhBody {
			node.Got, node.Run, node.Frame = "0", 1, f
			checkNode(t, node, boxed || !tx)
			continue
		}
		want := int64(1)
		if phase == 0 && boxed || phase == 2 && at == 1 && !tx && !bad || phase == 3 && !mild {
			want = 0
			down++
		}
		checkGives(t, node, true, 1, want)
		checkNode(t, node, true)
	}
	if down != 80+4+80 {
		t.Errorf("%d give 0", down)
	}
}

// In PhBody it gives what it says where Tx, and 1 where not, whatever Box, Mild, Bad and At are.
func TestDrivesInBody(t *testing.T) {
	f := dataFrame(1365, 170, 0, 255)
	for size := 1; size <= len(saidByEye(f)); size++ {
		for flags := range 16 {
			n := sendingOf(f, size)
			n.Mild, n.Bad, n.Last, n.At = flags%2 == 1, flags/2%2 == 1, int64(flags/4%2), int64(flags/8)
			n.Box = append(boxOf(3, 4, 5), f)
			next := nextByEye(n)
			checkGives(t, n, true, next, next)
			n.Tx = false
			checkGives(t, n, true, next, 1)
			n.Box = nil
			checkGives(t, n, true, next, 1)
		}
	}
}

// drivingNodes are right nodes that give 0, or would say 0 next: with one thing wrong they do neither.
func drivingNodes() []impl.Node {
	var list []impl.Node
	for _, n := range rightNodes() {
		if drivesByEye(n) == 0 || nextByEye(n) == 0 {
			list = append(list, n)
		}
	}
	return list
}

// spoilers each make one thing of a right node wrong; they write into none of its lists.
func spoilers() []func(n *impl.Node) {
	return []func(n *impl.Node){
		func(n *impl.Node) { n.Left = 129 }, func(n *impl.Node) { n.Left = -1 }, func(n *impl.Node) { n.Last += 2 }, func(n *impl.Node) { n.Last = -1 },
		func(n *impl.Node) { n.Run = 12 }, func(n *impl.Node) { n.Run = -1 }, func(n *impl.Node) { n.At = 10 }, func(n *impl.Node) { n.At = -1 },
		func(n *impl.Node) { n.Phase += 8 }, func(n *impl.Node) { n.Phase -= 8 }, func(n *impl.Node) { n.Got += "x" }, func(n *impl.Node) { n.Got += strings.Repeat("0", 99) },
		func(n *impl.Node) { n.Count.Sent = 1001 }, func(n *impl.Node) { n.Count.Got = -1 }, func(n *impl.Node) { n.Frame.Id = 2048 }, func(n *impl.Node) { n.Frame.Len++ },
		func(n *impl.Node) { n.Box = append(n.Box[:len(n.Box):len(n.Box)], impl.Frame{Id: -1}) }, func(n *impl.Node) { n.Box = []impl.Frame{{}, {}} },
		func(n *impl.Node) { n.Fifo = []impl.Frame{{}, {Id: -1}} }, func(n *impl.Node) { n.Fifo = heard(33) },
		func(n *impl.Node) { n.Filters = []impl.Filter{{Mask: 2048}} }, func(n *impl.Node) { n.Filters = make([]impl.Filter, 9) },
	}
}

// What is not right goes ahead of all that would tell otherwise.
func TestWrongNodesAreStill(t *testing.T) {
	driving := drivingNodes()
	phases := map[int64]int{}
	for _, n := range driving {
		phases[n.Phase]++
		given, held := nodeWithRoom(n)
		before := held()
		for _, wrong := range spoilers() {
			other := given
			wrong(&other)
			checkGives(t, other, false, 1, 1)
		}
		if !slices.Equal(held(), before) {
			t.Fatalf("%+v is changed", n)
		}
		checkGives(t, given, true, nextByEye(n), drivesByEye(n))
	}
	for _, phase := range []int64{impl.PhIdle, impl.PhBody, impl.PhTail, impl.PhFlag} {
		if phases[phase] == 0 {
			t.Errorf("none is in phase %d", phase)
		}
	}
}

// checkNew fails where NewNode does not answer a node of these filters and nothing else, or, where ok is false, the
// zero Node; where it writes into the filters, or behind them; and where the answer is not new memory.
func checkNew(t *testing.T, filters []impl.Filter, ok bool) {
	t.Helper()
	given, all := filtersWithRoom(filters)
	before := slices.Clone(all)
	n, told := impl.NewNode(given)
	want := impl.Node{}
	if ok {
		want.Filters = filters
	}
	if told != ok || fmt.Sprintf("%+v", n) != fmt.Sprintf("%+v", want) {
		t.Fatalf("NewNode %+v: %v, %+v", filters, told, n)
	}
	checkNode(t, n, true)
	second, _ := impl.NewNode(given)
	for i := range n.Filters[:cap(n.Filters)] {
		n.Filters[:cap(n.Filters)][i] = impl.Filter{Mask: -77, Code: -78}
	}
	if !slices.Equal(all, before) || !slices.Equal(second.Filters, want.Filters) {
		t.Fatalf("NewNode of %+v has written into them, or its answer shares memory", filters)
	}
}

func TestNewNodesByHand(t *testing.T) {
	five := forOne(5)
	for _, c := range []struct {
		filters []impl.Filter
		ok      bool
	}{
		// Of nil, of none, of 1, of 8 and of 9, alike or not.
		{nil, true}, {[]impl.Filter{}, true}, {[]impl.Filter{five}, true}, {[]impl.Filter{{}}, true}, {[]impl.Filter{{Mask: 2047, Code: 2047}}, true}, {[]impl.Filter{{Code: 2047}}, true},
		{[]impl.Filter{five, five}, true}, {[]impl.Filter{{Mask: 7, Code: 9}, five, {}}, true}, {slices.Repeat([]impl.Filter{five}, 7), true}, {slices.Repeat([]impl.Filter{five}, 8), true},
		{slices.Repeat([]impl.Filter{five}, 9), false}, {slices.Repeat([]impl.Filter{{}}, 9), false}, {slices.Repeat([]impl.Filter{five}, 1000), false},
		// One past an end.
		{[]impl.Filter{{Mask: -1}}, false}, {[]impl.Filter{{Mask: 2048}}, false}, {[]impl.Filter{{Code: -1}}, false}, {[]impl.Filter{{Code: 2048}}, false},
		{[]impl.Filter{five, {Mask: -1}}, false}, {[]impl.Filter{{Code: 2048}, five}, false}, {[]impl.Filter{{Mask: 2048, Code: -1}}, false},
		{append(slices.Repeat([]impl.Filter{five}, 8), impl.Filter{Mask: -1}), false},
	} {
		checkNew(t, c.filters, c.ok)
	}
}

// One filter that is not right, at each place of each size.
func TestNewNodesWrongFilters(t *testing.T) {
	for _, number := range wrongIds() {
		for _, wrong := range []impl.Filter{{Mask: number}, {Code: number}, {Mask: number, Code: 5}, {Mask: 5, Code: number}, {Mask: number, Code: number}} {
			for size := range 9 {
				for place := 0; place <= size; place++ {
					checkNew(t, slices.Insert(slices.Repeat([]impl.Filter{forOne(5)}, size), place, wrong), false)
				}
			}
		}
	}
}

// checkPromise11 fails where a new node of right filters is not still, or where it stays so with a frame in its Box.
func checkPromise11(t *testing.T, filters []impl.Filter) {
	t.Helper()
	n, ok := impl.NewNode(filters)
	if !ok || !impl.NodeOk(n) || n.Phase != impl.PhIdle || !slices.Equal(n.Filters, filters) {
		t.Fatalf("NewNode %+v: %v, %+v", filters, ok, n)
	}
	alone := n
	alone.Filters = nil
	if fmt.Sprintf("%+v", alone) != fmt.Sprintf("%+v", impl.Node{}) {
		t.Fatalf("NewNode %+v is more than its filters: %+v", filters, n)
	}
	checkGives(t, n, true, 1, 1)
	for _, f := range []impl.Frame{{}, dataFrame(5, 1), remoteFrame(2047, 8)} {
		n.Box = []impl.Frame{f}
		checkGives(t, n, true, 1, 0)
	}
	n.Box = fullBox()
	checkGives(t, n, true, 1, 0)
}

// Promise 11: each short list of filters, each Mask and each Code, and lists of each size.
func TestPromise11(t *testing.T) {
	kinds := []impl.Filter{forAll, forOne(5), forOne(2047), {Code: 2047}, {Mask: 12, Code: 5}}
	eachFilters(kinds, 4, func(list []impl.Filter) {
		checkPromise11(t, list)
		checkNew(t, list, true)
	})
	for number := range int64(2048) {
		checkPromise11(t, []impl.Filter{{Mask: number}, {Code: number}, {Mask: number, Code: 2047 - number}})
	}
	for size := range 9 {
		checkPromise11(t, slices.Repeat([]impl.Filter{forOne(int64(size))}, size))
	}
}

// Promise 20, for this layer: every function answers at every argument and none panics; no argument is written into,
// nor the spare room behind it.
func TestNodesAnswerAtAll(t *testing.T) {
	numbers := append([]int64{0, 1, 2, 5, 7, 8, 9, 11, 98, 128, 129, 1000}, farNumbers...)
	huge := impl.Frame{Len: 8, Data: make([]int64, 1000)}
	gots := append([]string{"", "0", mixed(19, 1), mixed(98, 2), mixed(99, 2), strings.Repeat("0", 1<<16), strings.Repeat("\xff", 98)}, notBits...)
	boxes := [][]impl.Frame{nil, {}, fullBox(), wrongEach(), heard(300), {huge}, {{}, dataFrame(5, 1, 2)}}
	filters := [][]impl.Filter{nil, {}, {forAll}, {{Mask: -1}}, slices.Repeat([]impl.Filter{forOne(5)}, 3000)}
	frames := slices.Concat(rightFrames(), wrongFrames(), []impl.Frame{huge, {}})
	for seed := range uint32(3000) {
		pick := someBytes(40, seed)
		number := func(place int) int64 { return numbers[int(pick[place])%len(numbers)] }
		n := impl.Node{
			Phase: number(0), Tx: pick[1]%2 == 1, Mild: pick[2]%2 == 1, Bad: pick[3]%2 == 1, Frame: frames[int(pick[4]*256+pick[5])%len(frames)],
			Got: gots[int(pick[6])%len(gots)], Run: number(7), Last: number(8), At: number(9), Left: number(10), Count: impl.Count{Sent: number(11), Got: number(12)},
			Box: boxes[int(pick[13])%len(boxes)], Fifo: boxes[int(pick[14])%len(boxes)], Filters: filters[int(pick[15])%len(filters)],
		}
		if pick[16]%4 > 0 {
			n.Phase, n.Run, n.Last, n.At, n.Left, n.Count = pick[16]%8, pick[17]%7, pick[18]%2, pick[19]%10, pick[20]%129, impl.Count{}
		}
		given, held := nodeWithRoom(n)
		before := held()
		mustAnswer(t, func() {
			impl.NodeOk(given)
			impl.NextBit(given)
			impl.Drives(given)
			impl.NewNode(given.Filters)
		}, n)
		if !slices.Equal(held(), before) {
			t.Fatalf("%+v, or the room behind it, is changed", n)
		}
	}
	for _, number := range farNumbers {
		for _, n := range []impl.Node{{Phase: number}, {Run: number}, {Last: number}, {At: number}, {Left: number}, {Phase: 1, Tx: true, Got: "0", Run: number}, {Phase: 1, Tx: true, Got: "0", Run: 5, Last: number}} {
			mustAnswer(t, func() { checkGives(t, n, false, 1, 1) }, n)
		}
	}
}

// Promise 20, for this layer: nothing is kept from call to call; another call tells what was changed in between.
func TestNodesKeepNothing(t *testing.T) {
	filters := []impl.Filter{forOne(5), forOne(6)}
	f := dataFrame(1024, 1, 2)
	n := sendingOf(f, 1)
	n.Filters = filters
	// The Data of the frame is in the Box, too; here each has its own.
	n.Box = []impl.Frame{dataFrame(1024, 1, 2)}
	made, _ := impl.NewNode(filters)
	for range 3 {
		checkGives(t, n, true, 1, 1)
		n.Got = "01"
		checkGives(t, n, true, 0, 0)
		n.Box[0].Data[1] = 3
		checkGives(t, n, false, 1, 1)
		n.Frame.Data[1] = 3
		checkGives(t, n, true, 0, 0)
		filters[1].Code = 2048
		checkGives(t, n, false, 1, 1)
		checkGives(t, made, true, 1, 1)
		checkNew(t, filters, false)
		filters[1].Code = 7
		checkNew(t, filters, true)
		if made.Filters[1].Code != 6 {
			t.Fatalf("a node that was answered has become %+v", made)
		}
		n.Box[0].Data[1], n.Frame.Data[1], n.Got = 2, 2, "0"
	}
}
