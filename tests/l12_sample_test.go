package tests

import (
	"slices"
	"strconv"
	"strings"
	"testing"

	"loop.example/g00753/impl"
)

func TestHappenConstants(t *testing.T) {
	kinds := []int64{impl.HpNone, impl.HpSent, impl.HpGot, impl.HpFull, impl.HpErr, impl.HpOff, impl.HpBack}
	if !slices.Equal(kinds, upTo(0, 6)) {
		t.Errorf("the kinds are %v", kinds)
	}
}

// Level 1 changes nothing, even where it drives 0; level 0 is the first bit of a frame, its own where Box is not empty.
func TestSampledInIdle(t *testing.T) {
	f, g := dataFrame(5, 1, 2), remoteFrame(9, 3)
	for _, n := range []impl.Node{{}, worn(), with(worn(), func(n *impl.Node) { n.Run, n.Got = 11, mixed(98, 1) }), with(worn(), func(n *impl.Node) { n.Tx, n.Bad, n.Frame = false, false, f })} {
		for _, box := range [][]impl.Frame{nil, {{}}, {f}, {g}, {f, g}, fullBox()} {
			n.Box = box
			checkStays(t, n, 1)
			want := n
			want.Phase, want.Tx, want.Frame, want.Got, want.Run, want.Last, want.Left, want.Bad = impl.PhBody, false, impl.Frame{}, "0", 1, 0, 0, false
			if len(box) > 0 {
				want.Tx, want.Frame = true, box[0]
			}
			checkSampled(t, n, 0, want, impl.Happen{})
		}
	}
}

// besideLast is a box of this frame, and of one of the last rank that there is.
func besideLast(f impl.Frame) []impl.Frame {
	if last := remoteFrame(2047, 3); rankByEye(f) < rankByEye(last) {
		return []impl.Frame{f, last}
	}
	return []impl.Frame{f}
}

// inBodyOf has seen so many bits of the frame and sends it or not, with much that does not matter.
func inBodyOf(f impl.Frame, size int, tx bool) impl.Node {
	n := sendingOf(f, size)
	n.Tx, n.Mild, n.At, n.Left, n.Count, n.Filters, n.Fifo = tx, true, 6, 77, impl.Count{Sent: 3, Got: 5}, []impl.Filter{forAll}, boxOf(30, 2)
	n.Box = besideLast(f)
	n.Last = int64(n.Got[size-1] - '0')
	return n
}

// Behind five alike the other bit must come: it is not in Got, and where Got is whole the tail begins.
func TestSampledBehindFive(t *testing.T) {
	f := dataFrame(1365, 7)
	size := len(saidByEye(f))
	for _, tx := range []bool{false, true} {
		for _, seen := range []int{1, 2, 12, 13, 18, 19, 33, 34, size - 1, size} {
			for last := range int64(2) {
				n := inBodyOf(f, seen, tx)
				n.Run, n.Last = 5, last
				checkBreaksOff(t, n, last)
				want := n
				want.Run, want.Last = 1, 1-last
				if seen == size {
					want.Phase, want.At, want.Left = impl.PhTail, 0, 0
				}
				checkSampled(t, n, 1-last, want, impl.Happen{})
			}
		}
	}
	// Bad is told anew, whatever it was.
	whole := checked(bodyByEye(f))
	for _, got := range []string{whole, turnedOver(whole, 20), turnedOver(whole, len(whole)-1), whole + "0", whole + "11", whole[:40]} {
		for _, bad := range []bool{false, true} {
			n := hearing(got, 5)
			n.Bad = bad
			want := n
			want.Run, want.Last = 1, 1
			if got != whole[:40] {
				want.Phase, want.Bad = impl.PhTail, got != whole
			}
			checkSampled(t, n, 1, want, impl.Happen{})
			checkBreaksOff(t, n, 0)
		}
	}
}

// Who does not send hears each level; the run is one more where the level is Last, else it is 1.
func TestSampledHears(t *testing.T) {
	for _, got := range []string{"0", "1", "0101", mixed(12, 4), mixed(13, 4), "0000000101000000001", "0000000101000001000" + mixed(60, 3)} {
		for run := int64(1); run < 5; run++ {
			for last := range int64(2) {
				n := with(worn(), func(n *impl.Node) { n.Phase, n.Tx, n.Got, n.Run, n.Last = impl.PhBody, false, got, run, last })
				alike, other := n, n
				alike.Got, alike.Run = got+strconv.FormatInt(last, 10), run+1
				other.Got, other.Run, other.Last = got+strconv.FormatInt(1-last, 10), 1, 1-last
				checkSampled(t, n, last, alike, impl.Happen{})
				checkSampled(t, n, 1-last, other, impl.Happen{})
			}
		}
	}
}

// Who sends says its frame; where it sees something else it has lost the contest, or breaks off: at each bit.
func TestSampledWhereItSends(t *testing.T) {
	lost, broken := 0, 0
	for _, f := range []impl.Frame{{}, dataFrame(1365, 7, 200), dataFrame(2047, 255), remoteFrame(3, 8), remoteFrame(2047, 0), dataFrame(62, 16, 120, 3, 254)} {
		said := saidByEye(f)
		for size := 1; size < len(said)-1; size++ {
			n := inBodyOf(f, size, true)
			next := int64(said[size] - '0')
			heard := with(n, func(n *impl.Node) {
				n.Got = said[:size+1]
				n.Run, n.Last = 1+map[bool]int64{true: 1}[n.Last == next], next
			})
			checkSampled(t, n, next, heard, impl.Happen{})
			if next == 0 || size > 12 {
				checkBreaksOff(t, n, 1-next)
				broken++
				continue
			}
			falls := with(n, func(n *impl.Node) {
				n.Got = said[:size] + "0"
				n.Tx, n.Run, n.Last = false, 1+map[bool]int64{true: 1}[n.Last == 0], 0
			})
			checkSampled(t, n, 0, falls, impl.Happen{})
			lost++
		}
	}
	if lost < 30 || broken < 200 {
		t.Errorf("%d have lost, %d have broken off", lost, broken)
	}
}

// The edges of the contest, by hand: with 1 bit seen, with 12 (the next one tells of remote) and with 13.
func TestContestByHand(t *testing.T) {
	high, ask := impl.Frame{Id: 2047}, impl.Frame{Id: 1365, Remote: true, Len: 8}
	for _, c := range []struct {
		f      impl.Frame
		got    string
		level  int64
		broken bool
		tx     bool
	}{
		{high, "0", 1, false, true}, {high, "0", 0, false, false}, {impl.Frame{}, "0", 0, false, true}, {impl.Frame{}, "0", 1, true, true},
		{ask, "010101010101", 1, false, true}, {ask, "010101010101", 0, false, false}, {impl.Frame{Id: 1365}, "010101010101", 0, false, true}, {impl.Frame{Id: 1365}, "010101010101", 1, true, true},
		// Behind the bit that tells of remote come two noughts: nobody says 1 there. The Len of 8 begins with a 1.
		{ask, "0101010101011", 0, false, true}, {ask, "0101010101011", 1, true, true}, {ask, "010101010101100", 0, true, true}, {ask, "010101010101100", 1, false, true},
	} {
		n := impl.Node{Phase: impl.PhBody, Tx: true, Frame: c.f, Box: []impl.Frame{c.f}, Got: c.got, Run: 1, Last: int64(c.got[len(c.got)-1] - '0')}
		if c.broken {
			checkSampled(t, n, c.level, impl.Node{Phase: impl.PhFlag, Tx: true, Frame: c.f, Box: []impl.Frame{c.f}, Left: 6, Count: impl.Count{Sent: 8}}, impl.Happen{Kind: impl.HpErr})
			continue
		}
		want := impl.Node{Phase: impl.PhBody, Tx: c.tx, Frame: c.f, Box: []impl.Frame{c.f}, Got: c.got + strconv.FormatInt(c.level, 10), Run: 1, Last: c.level}
		if c.level == n.Last {
			want.Run = 2
		}
		checkSampled(t, n, c.level, want, impl.Happen{})
	}
}

// The last bit of the frame: where Run is 5 then, the one that is put in comes first; else the tail begins.
func TestSampledLastBit(t *testing.T) {
	for _, f := range []impl.Frame{{}, dataFrame(5, 1, 2), remoteFrame(3, 8), remoteFrame(2047, 0), eightOf(2047, 255)} {
		said := saidByEye(f)
		level := int64(said[len(said)-1] - '0')
		for _, tx := range []bool{false, true} {
			for run := int64(1); run < 5; run++ {
				for last := range int64(2) {
					n := inBodyOf(f, len(said)-1, tx)
					n.Run, n.Last, n.Bad = run, last, tx
					want := n
					want.Got, want.Run, want.Last = said, 1, level
					if level == last {
						want.Run = run + 1
					}
					if want.Run < 5 {
						want.Phase, want.At, want.Left, want.Bad = impl.PhTail, 0, 0, false
					}
					checkSampled(t, n, level, want, impl.Happen{})
				}
			}
		}
	}
}

// badlySaid are texts that are whole, and what ReadFrame tells of them. RdBits is of none: what is whole has its head.
func badlySaid() map[string]int64 {
	f := dataFrame(5, 1, 2)
	whole := saidByEye(f)
	said := map[string]int64{whole: impl.RdOk, saidByEye(remoteFrame(7, 8)): impl.RdOk, saidByEye(eightOf(2047, 1)): impl.RdOk, saidByEye(impl.Frame{}): impl.RdOk}
	for place := 19; place < len(whole); place += 4 {
		said[turnedOver(whole, place)] = impl.RdCheck
	}
	for _, form := range []string{"010", "001", "011", "100", "111"} {
		said[checked(headByEye(f, form)+mixed(16, 1))] = impl.RdForm
	}
	for _, size := range []string{"1001", "1010", "1100", "1111"} {
		said[checked("000000010100000"+size+mixed(64, 2))] = impl.RdLen
		said[checked("000000010100100"+size)] = impl.RdLen
		said[checked("000000010100001"+size+mixed(64, 2))] = impl.RdForm
		said["000000010100000"+size+mixed(79, 2)] = impl.RdCheck
	}
	return said
}

// Who hears a whole frame is Bad where it is none; a remote one is whole with 34 bits, one of a Len of more than 8 with 98.
func TestSampledBad(t *testing.T) {
	met := map[int64]int{}
	for got, code := range badlySaid() {
		if _, byEye := readByEye(got); byEye != code {
			t.Fatalf("%q: %d, not %d", got, byEye, code)
		}
		ahead, level := got[:len(got)-1], int64(got[len(got)-1]-'0')
		met[code]++
		for _, bad := range []bool{false, true} {
			n := hearing(ahead, 1)
			n.Last, n.Bad, n.At, n.Left = 1-level, bad, 8, 5
			want := n
			want.Phase, want.Got, want.Last, want.At, want.Left, want.Bad = impl.PhTail, got, level, 0, 0, code != impl.RdOk
			checkSampled(t, n, level, want, impl.Happen{})
			checkSampledByEye(t, n, 1-level)
			// One bit ahead of that it is not whole yet.
			n.Got = ahead[:len(ahead)-1]
			if after, _ := impl.Sampled(n, 0); after.Phase != impl.PhBody {
				t.Fatalf("%q is whole", after.Got)
			}
			checkSampledByEye(t, n, 0)
		}
	}
	if len(met) != 4 || met[impl.RdOk] != 4 || met[impl.RdLen] != 8 || met[impl.RdForm] < 5 || met[impl.RdCheck] < 8 {
		t.Error(met)
	}
}

// The whole tail, place by place: n is one place on, b breaks off, h is heard, e ends and s is sent.
func TestSampledTail(t *testing.T) {
	f := dataFrame(5, 1, 2)
	for _, c := range []struct {
		tx, bad  bool
		up, down string
	}{
		{false, false, "nnnnnnnnhe", "bnbbbbbbbe"},
		{false, true, "nnbnnnnnhe", "bnbbbbbbbe"},
		{true, false, "nbnnnnnnns", "bnbbbbbbbb"},
		{true, true, "nbbnnnnnns", "bnbbbbbbbb"},
	} {
		for at := range int64(10) {
			n := inTailOf(f, at, c.tx)
			n.Bad = c.bad
			checkTail(t, n, 1, c.up[at])
			checkTail(t, n, 0, c.down[at])
			// What was left from the body, and Left, do not matter.
			n.Run, n.Last, n.Left, n.Mild = 11, 0, 0, false
			checkTail(t, n, 1, c.up[at])
			checkTail(t, n, 0, c.down[at])
		}
	}
}

// inTailOf has seen the whole frame, and as many places of the tail; it is the one that sends it, or not.
func inTailOf(f impl.Frame, at int64, tx bool) impl.Node {
	n := sendingOf(f, len(saidByEye(f)))
	n.Phase, n.At, n.Tx, n.Mild, n.Run, n.Last, n.Left, n.Count = impl.PhTail, at, tx, true, 2, 1, 9, impl.Count{Sent: 30, Got: 40}
	n.Fifo, n.Filters = []impl.Frame{{Id: 8}, remoteFrame(3, 5)}, []impl.Filter{forOne(9), {Mask: 1, Code: 1}}
	n.Box = besideLast(f)
	return n
}

// checkTail fails where the node, of inTailOf, does not do what this letter tells.
func checkTail(t *testing.T, n impl.Node, level int64, does byte) {
	t.Helper()
	want, happen := n, impl.Happen{}
	switch does {
	case 'b':
		checkBreaksOff(t, n, level)
		return
	case 'n':
		want.At++
	case 'h':
		want.At, want.Count.Got = 9, 39
		want.Fifo = append(slices.Clone(n.Fifo), n.Frame)
		happen = impl.Happen{Kind: impl.HpGot, Frame: n.Frame}
	case 's':
		want.Count.Sent, want.Box = 29, n.Box[1:]
		happen = impl.Happen{Kind: impl.HpSent, Frame: n.Frame}
		fallthrough
	case 'e':
		want.Phase, want.Left, want.Got, want.Run, want.Last, want.At = impl.PhInter, 3, "", 0, 0, 0
	}
	checkSampled(t, n, level, want, happen)
}

// At 8: what is heard passes or not, and there is room for it or not; Count is GotWell, whatever the filters are.
func TestSampledHeard(t *testing.T) {
	fifo := heard(32)
	for _, f := range []impl.Frame{{}, dataFrame(5, 1, 2), remoteFrame(7, 8), eightOf(2047, 255)} {
		for _, c := range []struct {
			filters []impl.Filter
			passes  bool
		}{
			{nil, true}, {[]impl.Filter{forAll}, true}, {[]impl.Filter{forOne(f.Id)}, true}, {[]impl.Filter{forOne(f.Id ^ 1)}, false}, {[]impl.Filter{forOne(9), forOne(f.Id)}, true},
			{slices.Repeat([]impl.Filter{forOne(f.Id ^ 1024)}, 8), false},
		} {
			for _, size := range []int{0, 1, 31, 32} {
				for _, got := range [][2]int64{{0, 0}, {1, 0}, {2, 1}, {119, 118}, {120, 119}, {127, 126}, {128, 119}, {255, 119}, {1000, 119}} {
					n := inTailOf(f, 8, false)
					n.Filters, n.Fifo, n.Count.Got, n.Frame = c.filters, fifo[:size], got[0], dataFrame(9, 9)
					want, happen := n, impl.Happen{}
					want.At, want.Count.Got = 9, got[1]
					switch {
					case c.passes && size == 32:
						happen = impl.Happen{Kind: impl.HpFull, Frame: f}
					case c.passes:
						want.Fifo = append(slices.Clone(fifo[:size]), f)
						happen = impl.Happen{Kind: impl.HpGot, Frame: f}
					}
					checkSampled(t, n, 1, want, happen)
					// Who sends hears nothing of its own.
					n.Tx = true
					want = n
					want.At = 9
					checkSampled(t, n, 1, want, impl.Happen{})
				}
			}
		}
	}
}

// A right node may stand at 8 with what is no frame: what ReadFrame tells beside the code is the zero Frame then.
func TestSampledHeardNoFrame(t *testing.T) {
	gots := []string{"", "0", mixed(18, 1), mixed(98, 5), saidByEye(dataFrame(5, 1)) + "0"}
	for got, code := range badlySaid() {
		if code != impl.RdOk {
			gots = append(gots, got)
		}
	}
	for _, got := range gots {
		n := impl.Node{Phase: impl.PhTail, At: 8, Got: got, Bad: true, Frame: dataFrame(5, 1)}
		want := n
		want.At, want.Fifo = 9, []impl.Frame{{}}
		checkSampled(t, n, 1, want, impl.Happen{Kind: impl.HpGot})
		n.Filters = []impl.Filter{forOne(5)}
		want.Filters, want.Fifo = n.Filters, nil
		checkSampled(t, n, 1, want, impl.Happen{})
		checkBreaksOff(t, n, 0)
	}
}

// At 9 the one that sends takes what has its rank out of its Box, wherever it stands; the others take nothing out.
func TestSampledSent(t *testing.T) {
	full := fullBox()
	for place, f := range full {
		for _, c := range []struct{ box, after []impl.Frame }{
			{full, slices.Delete(fullBox(), place, place+1)}, {[]impl.Frame{f}, nil}, {nil, nil}, {boxOf(3, 99), boxOf(3, 99)},
			{[]impl.Frame{frameOfRank(rankByEye(f), 77)}, nil}, {boxOf(2, rankByEye(f), 35), boxOf(2, 35)},
		} {
			for _, sent := range [][2]int64{{0, 0}, {1, 0}, {128, 127}, {256, 255}, {1000, 999}} {
				n := inTailOf(f, 9, true)
				n.Box, n.Count.Sent = c.box, sent[0]
				want := n
				want.Phase, want.Left, want.Got, want.Run, want.Last, want.At, want.Box, want.Count.Sent = impl.PhInter, 3, "", 0, 0, 0, c.after, sent[1]
				checkSampled(t, n, 1, want, impl.Happen{Kind: impl.HpSent, Frame: f})
				checkBreaksOff(t, n, 0)
				n.Tx = false
				want.Tx, want.Box, want.Count.Sent = false, n.Box, n.Count.Sent
				checkSampled(t, n, 1, want, impl.Happen{})
				checkSampled(t, n, 0, want, impl.Happen{})
			}
		}
	}
}

// What counts, with each Left: where it comes to 0, and where it is 0, it goes on.
func TestSampledCounting(t *testing.T) {
	type stand struct{ phase, left int64 }
	for _, c := range []struct {
		phase    int64
		last     stand
		down     stand
		lastDown stand
	}{
		// The level matters in PhDelim, and in PhWait, which is looked at below. A Left of -1 is one less.
		{impl.PhFlag, stand{impl.PhDelim, 8}, stand{impl.PhFlag, -1}, stand{impl.PhDelim, 8}},
		{impl.PhDelim, stand{impl.PhInter, 3}, stand{impl.PhDelim, 8}, stand{impl.PhDelim, 8}},
		{impl.PhInter, stand{impl.PhIdle, 0}, stand{impl.PhInter, -1}, stand{impl.PhIdle, 0}},
		{impl.PhWait, stand{impl.PhIdle, 0}, stand{}, stand{}},
	} {
		for _, n := range []impl.Node{{}, worn(), with(worn(), func(n *impl.Node) { n.Tx, n.Mild = false, false })} {
			for _, left := range []int64{0, 1, 2, 3, 6, 8, 127, 128} {
				n.Phase, n.Left = c.phase, left
				up, down := stand{c.phase, left - 1}, c.down
				if left < 2 {
					up, down = c.last, c.lastDown
				} else if down.left == -1 {
					down.left = left - 1
				}
				for level, to := range []stand{down, up} {
					if c.phase == impl.PhWait && level == 0 {
						continue
					}
					want := n
					want.Phase, want.Left = to.phase, to.left
					if c.phase == impl.PhInter && left < 2 {
						want.Tx, want.Frame = false, impl.Frame{}
					}
					checkSampled(t, n, int64(level), want, impl.Happen{})
				}
			}
		}
	}
}

// At the end of PhInter who sends and is mild waits; none else does.
func TestSampledAfterInter(t *testing.T) {
	for _, c := range []struct {
		tx    bool
		count impl.Count
		waits bool
	}{
		{true, impl.Count{}, false}, {true, impl.Count{Sent: 127, Got: 127}, false}, {true, impl.Count{Sent: 128}, true}, {true, impl.Count{Got: 128}, true}, {true, impl.Count{Sent: 255, Got: 1000}, true},
		{true, impl.Count{Sent: 256}, false}, {true, impl.Count{Sent: 256, Got: 1000}, false}, {false, impl.Count{}, false}, {false, impl.Count{Sent: 128}, false}, {false, impl.Count{Got: 1000}, false},
	} {
		for _, left := range []int64{0, 1, 2, 3, 128} {
			for level := range int64(2) {
				n := with(worn(), func(n *impl.Node) { n.Phase, n.Left, n.Tx, n.Count = impl.PhInter, left, c.tx, c.count })
				want := n
				switch {
				case left > 1:
					want.Left--
				case c.waits:
					want.Phase, want.Left, want.Tx, want.Frame = impl.PhWait, 8, false, impl.Frame{}
				default:
					want.Phase, want.Left, want.Tx, want.Frame = impl.PhIdle, 0, false, impl.Frame{}
				}
				checkSampled(t, n, level, want, impl.Happen{})
			}
		}
	}
}

// Who waits hears what another one begins, whatever is in its own Box, and however long it is to wait yet.
func TestSampledWaiting(t *testing.T) {
	for _, left := range []int64{0, 1, 2, 8, 128} {
		for _, n := range []impl.Node{{}, worn(), with(worn(), func(n *impl.Node) { n.Tx, n.Box = false, nil }), {Box: boxOf(4), Run: 11, Last: 1, Bad: true}} {
			n.Phase, n.Left = impl.PhWait, left
			want := n
			want.Phase, want.Got, want.Run, want.Last, want.Left, want.Tx, want.Bad = impl.PhBody, "0", 1, 0, 0, false, false
			checkSampled(t, n, 0, want, impl.Happen{})
		}
	}
}

// Who is off counts ones on end: 11 of them, or more, are one less to go.
func TestSampledOff(t *testing.T) {
	for run := range int64(12) {
		for _, left := range []int64{0, 1, 2, 3, 127, 128} {
			for _, n := range []impl.Node{{}, worn(), with(worn(), func(n *impl.Node) { n.Count, n.Tx = impl.Count{Sent: 1000, Got: 1000}, false })} {
				n.Phase, n.Run, n.Left = impl.PhOff, run, left
				down, up, happen := n, n, impl.Happen{}
				down.Run = 0
				switch {
				case run < 10:
					up.Run++
				case left > 1:
					up.Run, up.Left = 0, left-1
				default:
					up.Phase, up.Run, up.Left, up.Count, up.Tx, up.Mild, up.Frame = impl.PhIdle, 0, 0, impl.Count{}, false, false, impl.Frame{}
					happen.Kind = impl.HpBack
				}
				checkSampled(t, n, 0, down, impl.Happen{})
				checkSampled(t, n, 1, up, happen)
			}
		}
	}
}

// From off to back it takes 128 times 11 ones; each of the elevens is begun anew where a 0 comes.
func TestOffAndBack(t *testing.T) {
	n := impl.Node{Phase: impl.PhOff, Left: 128, Count: impl.Count{Sent: 260, Got: 3}, Tx: true, Frame: dataFrame(5), Box: boxOf(10)}
	for i := range 128 {
		before := strings.Repeat("1", i%11)
		n = seen(t, n, before+"0"+strings.Repeat("1", 10), impl.HpNone)
		if n.Phase != impl.PhOff || n.Left != int64(128-i) || n.Run != 10 {
			t.Fatalf("the eleven %d: %+v", i, n)
		}
		n = seen(t, n, "1", map[bool]int64{true: impl.HpBack}[i == 127])
	}
	if !sameNodes(n, impl.Node{Box: boxOf(10)}) {
		t.Fatalf("it is back as %+v", n)
	}
}

// seen is the node behind these levels; at the last of them, and at no other one, it tells this.
func seen(t *testing.T, n impl.Node, levels string, kind int64) impl.Node {
	t.Helper()
	for i, level := range []byte(levels) {
		after, told := impl.Sampled(n, int64(level-'0'))
		want := map[bool]int64{true: kind}[i == len(levels)-1]
		if told.Kind != want {
			t.Fatalf("%+v at bit %d of %q: %+v", n, i, levels, told)
		}
		n = after
	}
	return n
}

// breaking is a node that breaks off at that level.
type breaking struct {
	n     impl.Node
	level int64
}

// breakingNodes are of each place where a node may break off: those that send, and those that hear.
func breakingNodes() []breaking {
	f := dataFrame(1365, 7)
	var list []breaking
	for _, tx := range []bool{false, true} {
		five := inBodyOf(f, 4, tx)
		five.Run = 5
		list = append(list, breaking{five, five.Last})
		for at := range int64(10) {
			level := int64(0)
			if at == 1 {
				level = 1
			}
			if tx || at != 1 && at != 9 {
				list = append(list, breaking{inTailOf(f, at, tx), level})
			}
		}
		bad := inTailOf(f, 2, tx)
		bad.Bad = true
		list = append(list, breaking{bad, 0}, breaking{bad, 1})
	}
	// Two zeros of its own, one of them in the Id; then a 1 of its Len.
	return append(list, breaking{inBodyOf(f, 2, true), 1}, breaking{inBodyOf(f, 14, true), 1}, breaking{inBodyOf(f, 18, true), 0})
}

// Breaking off, written out: just below and at each step of StateOf, by who sends and by who hears.
func TestBreaksOffByHand(t *testing.T) {
	for _, c := range []struct {
		tx            bool
		before, after impl.Count
		off, mild     bool
	}{
		{true, impl.Count{}, impl.Count{Sent: 8}, false, false}, {true, impl.Count{Sent: 119}, impl.Count{Sent: 127}, false, false}, {true, impl.Count{Sent: 120}, impl.Count{Sent: 128}, false, true},
		{true, impl.Count{Sent: 247}, impl.Count{Sent: 255}, false, true}, {true, impl.Count{Sent: 248}, impl.Count{Sent: 256}, true, false}, {true, impl.Count{Sent: 255}, impl.Count{Sent: 263}, true, false},
		{true, impl.Count{Sent: 992}, impl.Count{Sent: 1000}, true, false}, {true, impl.Count{Sent: 993}, impl.Count{Sent: 1000}, true, false}, {true, impl.Count{Sent: 1000}, impl.Count{Sent: 1000}, true, false},
		{true, impl.Count{Got: 127}, impl.Count{Sent: 8, Got: 127}, false, false}, {true, impl.Count{Got: 128}, impl.Count{Sent: 8, Got: 128}, false, true}, {true, impl.Count{Sent: 119, Got: 1000}, impl.Count{Sent: 127, Got: 1000}, false, true},
		{false, impl.Count{}, impl.Count{Got: 1}, false, false}, {false, impl.Count{Got: 126}, impl.Count{Got: 127}, false, false}, {false, impl.Count{Got: 127}, impl.Count{Got: 128}, false, true},
		{false, impl.Count{Got: 255}, impl.Count{Got: 256}, false, true}, {false, impl.Count{Got: 999}, impl.Count{Got: 1000}, false, true}, {false, impl.Count{Got: 1000}, impl.Count{Got: 1000}, false, true},
		{false, impl.Count{Sent: 127}, impl.Count{Sent: 127, Got: 1}, false, false}, {false, impl.Count{Sent: 128}, impl.Count{Sent: 128, Got: 1}, false, true}, {false, impl.Count{Sent: 248}, impl.Count{Sent: 248, Got: 1}, false, true},
		{false, impl.Count{Sent: 255, Got: 127}, impl.Count{Sent: 255, Got: 128}, false, true}, {false, impl.Count{Sent: 256}, impl.Count{Sent: 256, Got: 1}, true, false}, {false, impl.Count{Sent: 1000, Got: 1000}, impl.Count{Sent: 1000, Got: 1000}, true, false},
	} {
		for _, b := range breakingNodes() {
			if b.n.Tx != c.tx {
				continue
			}
			for _, mild := range []bool{false, true} {
				n := b.n
				n.Count, n.Mild = c.before, mild
				want, happen := n, impl.Happen{Kind: impl.HpErr}
				want.Phase, want.Left, want.Mild, want.Count = impl.PhFlag, 6, c.mild, c.after
				want.Got, want.Run, want.Last, want.At, want.Bad = "", 0, 0, 0, false
				if c.off {
					want.Phase, want.Left, want.Mild, happen.Kind = impl.PhOff, 128, mild, impl.HpOff
				}
				checkSampled(t, n, b.level, want, happen)
			}
		}
	}
}

// Of all levels that a node may see in each Phase: only those of PhBody and PhTail make it break off.
func TestNobodyBreaksOffElsewhere(t *testing.T) {
	for _, base := range rightNodes() {
		for _, level := range []int64{0, 1} {
			if kind := checkSampledByEye(t, base, level); base.Phase != impl.PhBody && base.Phase != impl.PhTail && (kind == impl.HpErr || kind == impl.HpOff) {
				t.Fatalf("%+v breaks off at %d", base, level)
			}
		}
	}
}

func TestQueuedByHand(t *testing.T) {
	five, other, ask, six := dataFrame(5, 55), dataFrame(5, 7, 8), remoteFrame(5, 3), dataFrame(6)
	low, wrongByte := impl.Frame{Id: -1}, dataFrame(5, 256)
	full, over := fullBox(), fullBox()
	over[3] = dataFrame(5, 1)
	for _, c := range []struct {
		box  []impl.Frame
		f    impl.Frame
		want []impl.Frame
		code int64
	}{
		// A rank with no place yet, one that is there, a full Box, a frame that is not right.
		{nil, five, []impl.Frame{five}, impl.BxOk}, {[]impl.Frame{five}, ask, []impl.Frame{five, ask}, impl.BxOk}, {[]impl.Frame{five, six}, ask, []impl.Frame{five, ask, six}, impl.BxOk},
		{[]impl.Frame{ask}, five, []impl.Frame{five, ask}, impl.BxOk}, {nil, impl.Frame{}, []impl.Frame{{}}, impl.BxOk}, {full[:15], full[15], full, impl.BxOk},
		{[]impl.Frame{five}, other, []impl.Frame{other}, impl.BxOver}, {[]impl.Frame{five, ask, six}, remoteFrame(5, 8), []impl.Frame{five, remoteFrame(5, 8), six}, impl.BxOver},
		{full, ask, full, impl.BxFull}, {full, impl.Frame{}, full, impl.BxFull}, {full, remoteFrame(2047, 0), full, impl.BxFull}, {full, dataFrame(5, 1), over, impl.BxOver},
		{nil, low, nil, impl.BxBad}, {[]impl.Frame{five}, wrongByte, []impl.Frame{five}, impl.BxBad}, {[]impl.Frame{five, six}, remoteFrame(5, 9), []impl.Frame{five, six}, impl.BxBad},
		{full, low, full, impl.BxBad}, {full, impl.Frame{Id: 2048}, full, impl.BxBad},
	} {
		for _, n := range []impl.Node{{}, worn(), with(worn(), func(n *impl.Node) { n.Frame = dataFrame(700, 1) })} {
			n.Box = c.box
			eachPhase(n, func(n impl.Node) {
				want := n
				want.Box = c.want
				checkQueued(t, n, c.f, want, c.code)
				n.Tx, want.Tx = false, false
				checkQueued(t, n, c.f, want, c.code)
			})
		}
		n := hearing("010", 2)
		n.Frame, n.Box = five, c.box
		checkQueued(t, n, c.f, with(n, func(n *impl.Node) { n.Box = c.want }), c.code)
	}
}

// What is being said stays as it is; as soon as it is not, another one of its rank comes in its place.
func TestQueuedWhereSending(t *testing.T) {
	five, other, ask := dataFrame(5, 55), dataFrame(5, 7, 8), remoteFrame(5, 3)
	for _, box := range [][]impl.Frame{{five}, {five, ask}, {{}, five}, boxOf(everySecond(4, 16)...)} {
		if place := slices.IndexFunc(box, func(f impl.Frame) bool { return rankByEye(f) == 10 }); place >= 0 {
			box[place] = five
		}
		n := sendingOf(five, 9)
		n.Box = box
		check := func(n impl.Node) {
			for _, f := range []impl.Frame{five, other, dataFrame(5)} {
				if said := n.Tx && n.Phase != impl.PhIdle && n.Phase != impl.PhInter; said {
					checkQueued(t, n, f, n, impl.BxFull)
					continue
				}
				want := n
				want.Box = takenByEye(box, 10)
				want.Box, _ = putByEye(want.Box, f)
				checkQueued(t, n, f, want, impl.BxOver)
			}
			// A frame that is not right is BxBad, even if it would have that rank; no other rank is asked for.
			for _, f := range []impl.Frame{dataFrame(5, 256), {Id: 5, Len: 1}, {Id: -1}, {Id: 5, Len: 9}} {
				checkQueued(t, n, f, n, impl.BxBad)
			}
			for _, f := range []impl.Frame{ask, remoteFrame(5, 0), dataFrame(4), dataFrame(6, 1)} {
				if _, code := impl.Queued(n, f); code != impl.BxOk && code != impl.BxOver && !(code == impl.BxFull && len(box) == 16) {
					t.Fatalf("%+v queued at %+v: code %d", f, n, code)
				}
				want, code := queuedByEye(n, f)
				checkQueued(t, n, f, want, code)
			}
		}
		check(n)
		eachPhase(n, check)
		n.Tx = false
		check(n)
		eachPhase(n, check)
	}
	// In all Phases but PhBody the frame that is being said needs not be in Box; it is not put there either.
	n := impl.Node{Phase: impl.PhTail, Tx: true, Frame: five}
	checkQueued(t, n, other, n, impl.BxFull)
}

func TestSendingEachPhase(t *testing.T) {
	for _, f := range []impl.Frame{{}, dataFrame(5, 1, 2), remoteFrame(5, 8), remoteFrame(2047, 0), eightOf(2047, 9)} {
		rank := rankByEye(f)
		n := sendingOf(f, 12)
		n.Box = besideLast(f)
		checkSending(t, n, rank)
		eachPhase(n, func(n impl.Node) {
			checkSending(t, n, []int64{-1, rank, rank, rank, rank, -1, rank, rank}[n.Phase])
			n.Box, n.Got, n.Bad, n.Mild = nil, "", true, true
			checkSending(t, n, []int64{-1, rank, rank, rank, rank, -1, rank, rank}[n.Phase])
			n.Tx = false
			checkSending(t, n, -1)
		})
		n.Tx = false
		checkSending(t, n, -1)
		// It is not asked whether all the rest of the node is right.
		n.Tx = true
		for _, wrong := range []func(n *impl.Node){
			func(n *impl.Node) { n.Left = 129 }, func(n *impl.Node) { n.Run, n.Last, n.At = -1, 2, 10 }, func(n *impl.Node) { n.Got, n.Box = "b", nil },
			func(n *impl.Node) { n.Count = impl.Count{Sent: 1001} }, func(n *impl.Node) { n.Phase = 8 }, func(n *impl.Node) { n.Phase = -1 },
			func(n *impl.Node) { n.Fifo, n.Filters = wrongEach(), []impl.Filter{{Mask: -1}} },
		} {
			checkSending(t, with(n, wrong), rank)
			checkSending(t, with(n, wrong, func(n *impl.Node) { n.Tx = false }), -1)
			checkSending(t, with(n, wrong, func(n *impl.Node) { n.Phase = impl.PhIdle }), -1)
			checkSending(t, with(n, wrong, func(n *impl.Node) { n.Phase = impl.PhInter }), -1)
		}
	}
	for _, f := range wrongFrames() {
		eachPhase(impl.Node{Tx: true, Frame: f}, func(n impl.Node) { checkSending(t, n, -1) })
	}
	for _, n := range rightNodes() {
		checkSending(t, n, sendingByEye(n))
	}
}

// checkRefused fails where a node that is not right is answered by anything but what is fixed for that.
func checkRefused(t *testing.T, n impl.Node) {
	t.Helper()
	given, held := nodeWithRoom(n)
	before := held()
	for _, level := range []int64{0, 1, -1, 2} {
		if after, told := impl.Sampled(given, level); !sameNodes(after, impl.Node{}) || !sameHappens(told, impl.Happen{}) {
			t.Fatalf("%+v at %d: %+v, %+v", n, level, after, told)
		}
	}
	for _, f := range []impl.Frame{{}, dataFrame(5, 1, 2), {Id: -1}, given.Frame} {
		if after, code := impl.Queued(given, f); code != impl.BxBad || !sameNodes(after, impl.Node{}) {
			t.Fatalf("%+v queued at %+v: %d, %+v", f, n, code, after)
		}
	}
	if rank := impl.Sending(given); rank != sendingByEye(n) {
		t.Fatalf("Sending %+v: %d", n, rank)
	}
	if !slices.Equal(held(), before) {
		t.Fatalf("%+v, or the room behind it, is changed", n)
	}
}

// A node that is not right, by each of its fields, in each Phase.
func TestWrongNodesAreRefused(t *testing.T) {
	for _, n := range append(rightNodes(), worn(), inTailOf(dataFrame(5), 8, false), inTailOf(dataFrame(5), 9, true)) {
		for _, wrong := range spoilers() {
			checkRefused(t, with(n, wrong))
		}
		for _, number := range farNumbers {
			checkRefused(t, with(n, func(n *impl.Node) { n.Phase = number }))
			checkRefused(t, with(n, func(n *impl.Node) { n.Left = number }))
			checkRefused(t, with(n, func(n *impl.Node) { n.Count.Got = number }))
		}
	}
	for _, c := range []impl.Count{{Sent: -1}, {Sent: 1001}, {Got: -1}, {Got: 1001}} {
		for _, b := range breakingNodes() {
			checkRefused(t, with(b.n, func(n *impl.Node) { n.Count = c }))
		}
	}
	// What is wanted in PhBody alone.
	f := dataFrame(1365, 7)
	whole := saidByEye(f)
	for _, tx := range []bool{false, true} {
		n := inBodyOf(f, 14, tx)
		for _, wrong := range []func(n *impl.Node){
			func(n *impl.Node) { n.Got = "" }, func(n *impl.Node) { n.Run = 0 }, func(n *impl.Node) { n.Run = 6 }, func(n *impl.Node) { n.Run = 11 }, func(n *impl.Node) { n.Got, n.Run = whole, 4 },
			func(n *impl.Node) { n.Got, n.Tx = "00", true }, func(n *impl.Node) { n.Box, n.Tx = nil, true }, func(n *impl.Node) { n.Box, n.Tx = []impl.Frame{dataFrame(1365, 8)}, true },
		} {
			checkRefused(t, with(n, wrong))
		}
	}
}

// A level that is none, at right nodes of each Phase.
func TestWrongLevelsAreRefused(t *testing.T) {
	levels := append([]int64{-1, 2, 3, -2, 48, 49, 256, 257, -1 << 62}, farNumbers...)
	for _, n := range append(rightNodes(), worn(), inTailOf(dataFrame(5), 8, false), inTailOf(dataFrame(5), 9, true), inBodyOf(dataFrame(5), 9, true)) {
		for _, level := range levels {
			checkSampled(t, n, level, impl.Node{}, impl.Happen{})
		}
	}
}
