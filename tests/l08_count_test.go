package tests

import (
	"math"
	"slices"
	"testing"

	"loop.example/g00753/impl"
)

// rightNumber tells in another way than the program whether one of the two numbers is right: below 0 it is huge here.
func rightNumber(n int64) bool {
	return uint64(n) < 1001
}

// passedBy is how many of the borders the number has come to.
func passedBy(n int64, borders ...int64) int64 {
	return int64(len(slices.DeleteFunc(borders, func(border int64) bool { return n < border })))
}

// stateByEye is how many borders were passed, by the number that has passed more of them.
func stateByEye(c impl.Count) int64 {
	if !rightNumber(c.Sent) || !rightNumber(c.Got) {
		return -1
	}
	return max(passedBy(c.Sent, 128, 256), passedBy(c.Got, 128))
}

// upTo are the numbers from first to last, in order.
func upTo(first, last int64) []int64 {
	var list []int64
	for n := first; n <= last; n++ {
		list = append(list, n)
	}
	return list
}

// countStep is one of the four functions that make another Count of one: what it makes of each right number is written
// out, and the other number stays.
type countStep struct {
	name  string
	after func(impl.Count) impl.Count
	sent  []int64
	got   []int64
}

func countSteps() []countStep {
	stays := upTo(0, 1000)
	return []countStep{
		{"SentWell", impl.SentWell, slices.Concat([]int64{0}, upTo(0, 999)), stays},
		{"GotWell", impl.GotWell, stays, slices.Concat([]int64{0}, upTo(0, 126), slices.Repeat([]int64{119}, 873))},
		{"SentBad", impl.SentBad, slices.Concat(upTo(8, 1000), slices.Repeat([]int64{1000}, 8)), stays},
		{"GotBad", impl.GotBad, stays, slices.Concat(upTo(1, 1000), []int64{1000})},
	}
}

// byEye is what the step must answer: the zero Count where one number is not right.
func (s countStep) byEye(c impl.Count) impl.Count {
	if !rightNumber(c.Sent) || !rightNumber(c.Got) {
		return impl.Count{}
	}
	return impl.Count{Sent: s.sent[c.Sent], Got: s.got[c.Got]}
}

func checkStep(t *testing.T, s countStep, c, want impl.Count) {
	t.Helper()
	if after := s.after(c); after != want {
		t.Fatalf("%s %+v: %+v, not %+v", s.name, c, after, want)
	}
}

func checkState(t *testing.T, c impl.Count, want int64) {
	t.Helper()
	if state := impl.StateOf(c); state != want {
		t.Fatalf("StateOf %+v: %d, not %d", c, state, want)
	}
	if impl.CountOk(c) != (want >= 0) {
		t.Fatalf("CountOk %+v: %v", c, want < 0)
	}
}

// wrongNumbers are never right: at the ends, a step past them, and far.
func wrongNumbers() []int64 {
	near := []int64{-1, -2, -8, -119, -1000, -1001, 1001, 1002, 1008, 1009, 2000, math.MinInt64 + 7, math.MinInt64 + 8, math.MaxInt64 - 7, math.MaxInt64 - 8}
	return append(near, farNumbers...)
}

// edgeNumbers are right, and stand beside something that the chapter names.
func edgeNumbers() []int64 {
	return []int64{0, 1, 2, 7, 8, 9, 118, 119, 120, 121, 126, 127, 128, 129, 247, 248, 254, 255, 256, 257, 991, 992, 993, 994, 998, 999, 1000}
}

func TestCountConstants(t *testing.T) {
	if impl.MaxCount != 1000 {
		t.Errorf("MaxCount is %d", impl.MaxCount)
	}
	if impl.StHard != 0 || impl.StMild != 1 || impl.StOff != 2 {
		t.Errorf("the states are %d, %d and %d", impl.StHard, impl.StMild, impl.StOff)
	}
}

func TestCountsRightByHand(t *testing.T) {
	for _, c := range []struct {
		c  impl.Count
		ok bool
	}{
		{impl.Count{}, true}, {impl.Count{Sent: 1000, Got: 1000}, true}, {impl.Count{Sent: 500, Got: 3}, true},
		// Each of the two at the ends, and one past them, the other one being right.
		{impl.Count{Sent: -1}, false}, {impl.Count{Sent: 0}, true}, {impl.Count{Sent: 1000}, true}, {impl.Count{Sent: 1001}, false},
		{impl.Count{Got: -1}, false}, {impl.Count{Got: 0}, true}, {impl.Count{Got: 1000}, true}, {impl.Count{Got: 1001}, false},
		{impl.Count{Sent: -1, Got: 1000}, false}, {impl.Count{Sent: 1001, Got: 1000}, false},
		{impl.Count{Sent: 1000, Got: -1}, false}, {impl.Count{Sent: 1000, Got: 1001}, false},
		// Both past an end, the same one and not: the two do not make up for each other.
		{impl.Count{Sent: -1, Got: -1}, false}, {impl.Count{Sent: 1001, Got: 1001}, false},
		{impl.Count{Sent: -1, Got: 1001}, false}, {impl.Count{Sent: 1001, Got: -1}, false},
	} {
		if ok := impl.CountOk(c.c); ok != c.ok {
			t.Errorf("CountOk %+v: %v", c.c, ok)
		}
	}
}

func TestStatesByHand(t *testing.T) {
	for _, c := range []struct {
		sent, got int64
		state     int64
	}{
		// Each of the two at its borders, the other one being 0.
		{0, 0, impl.StHard}, {127, 0, impl.StHard}, {128, 0, impl.StMild}, {255, 0, impl.StMild}, {256, 0, impl.StOff}, {1000, 0, impl.StOff},
		{0, 127, impl.StHard}, {0, 128, impl.StMild}, {0, 255, impl.StMild}, {0, 256, impl.StMild}, {0, 1000, impl.StMild},
		// Both at borders: one that is more is enough, they are not added up, and Got alone is never off.
		{127, 127, impl.StHard}, {127, 128, impl.StMild}, {127, 255, impl.StMild}, {127, 256, impl.StMild}, {127, 1000, impl.StMild},
		{128, 127, impl.StMild}, {128, 128, impl.StMild}, {128, 255, impl.StMild}, {128, 256, impl.StMild}, {128, 1000, impl.StMild},
		{255, 127, impl.StMild}, {255, 128, impl.StMild}, {255, 255, impl.StMild}, {255, 256, impl.StMild}, {255, 1000, impl.StMild},
		{256, 127, impl.StOff}, {256, 128, impl.StOff}, {256, 255, impl.StOff}, {256, 256, impl.StOff}, {256, 1000, impl.StOff},
		{1, 256, impl.StMild}, {1, 1000, impl.StMild}, {100, 1000, impl.StMild}, {1000, 1000, impl.StOff}, {1000, 1, impl.StOff},
		// One is not right, whatever the other one tells.
		{-1, 0, -1}, {0, -1, -1}, {1001, 0, -1}, {0, 1001, -1}, {-1, 128, -1}, {256, -1, -1}, {1001, 1000, -1}, {256, 1001, -1},
		{-1, -1, -1}, {1001, 1001, -1}, {-1, 1001, -1}, {1001, -1, -1},
	} {
		checkState(t, impl.Count{Sent: c.sent, Got: c.got}, c.state)
	}
}

func TestCountStepsByHand(t *testing.T) {
	steps := countSteps()
	sentWell, gotWell, sentBad, gotBad := steps[0], steps[1], steps[2], steps[3]
	for _, c := range []struct {
		step         countStep
		before, want int64
		onSent       bool
	}{
		{sentWell, 0, 0, true}, {sentWell, 1, 0, true}, {sentWell, 2, 1, true}, {sentWell, 127, 126, true}, {sentWell, 128, 127, true},
		{sentWell, 256, 255, true}, {sentWell, 1000, 999, true},
		{gotWell, 0, 0, false}, {gotWell, 1, 0, false}, {gotWell, 2, 1, false}, {gotWell, 119, 118, false}, {gotWell, 120, 119, false},
		{gotWell, 121, 120, false}, {gotWell, 127, 126, false}, {gotWell, 128, 119, false}, {gotWell, 129, 119, false},
		{gotWell, 256, 119, false}, {gotWell, 1000, 119, false},
		{sentBad, 0, 8, true}, {sentBad, 1, 9, true}, {sentBad, 120, 128, true}, {sentBad, 248, 256, true},
		{sentBad, 991, 999, true}, {sentBad, 992, 1000, true}, {sentBad, 993, 1000, true}, {sentBad, 999, 1000, true}, {sentBad, 1000, 1000, true},
		{gotBad, 0, 1, false}, {gotBad, 127, 128, false}, {gotBad, 255, 256, false}, {gotBad, 998, 999, false}, {gotBad, 999, 1000, false}, {gotBad, 1000, 1000, false},
	} {
		// The other number stays as it is, whichever it is.
		for _, other := range edgeNumbers() {
			if c.onSent {
				checkStep(t, c.step, impl.Count{Sent: c.before, Got: other}, impl.Count{Sent: c.want, Got: other})
			} else {
				checkStep(t, c.step, impl.Count{Sent: other, Got: c.before}, impl.Count{Sent: other, Got: c.want})
			}
		}
	}
}

// Each Count that there is, and some past each end: what it is, and what each of the four makes of it.
func TestEachCount(t *testing.T) {
	steps := countSteps()
	for _, s := range steps {
		if len(s.sent) != 1001 || len(s.got) != 1001 {
			t.Fatalf("%s: %d and %d numbers are written out", s.name, len(s.sent), len(s.got))
		}
	}
	for sent := int64(-10); sent <= 1010; sent++ {
		for got := int64(-10); got <= 1010; got++ {
			c := impl.Count{Sent: sent, Got: got}
			checkState(t, c, stateByEye(c))
			for _, s := range steps {
				after := s.after(c)
				if after != s.byEye(c) || !impl.CountOk(after) {
					t.Fatalf("%s %+v: %+v, not %+v", s.name, c, after, s.byEye(c))
				}
			}
		}
	}
}

// wrongCounts have one number that is not right, the other one, or both.
func wrongCounts() []impl.Count {
	var list []impl.Count
	for _, far := range wrongNumbers() {
		for _, right := range edgeNumbers() {
			list = append(list, impl.Count{Sent: far, Got: right}, impl.Count{Sent: right, Got: far})
		}
		for _, other := range wrongNumbers() {
			list = append(list, impl.Count{Sent: far, Got: other})
		}
	}
	return list
}

// Of what is no Count the four answer the zero Count: the number that was right is not kept either.
func TestCountsWrong(t *testing.T) {
	for _, c := range wrongCounts() {
		checkState(t, c, -1)
		for _, s := range countSteps() {
			checkStep(t, s, c, impl.Count{})
		}
	}
}

// afterTimes is what the function makes of the Count, done so many times.
func afterTimes(after func(impl.Count) impl.Count, c impl.Count, times int) impl.Count {
	for range times {
		c = after(c)
	}
	return c
}

// Promise 8: who fails again and again is off at last, from the zero Count at the 32nd time and not ahead of it.
func TestPromise8OffAtLast(t *testing.T) {
	for times := range 200 {
		want := int64(impl.StHard)
		if times >= 16 {
			want = impl.StMild
		}
		if times >= 32 {
			want = impl.StOff
		}
		c := afterTimes(impl.SentBad, impl.Count{}, times)
		checkState(t, c, want)
		if c.Got != 0 || c.Sent != min(int64(times)*8, 1000) {
			t.Fatalf("having failed %d times: %+v", times, c)
		}
	}
}

// Promise 8, from each Count: 32 times are enough, and who is off and goes on failing stays off.
func TestPromise8OffFromEach(t *testing.T) {
	for sent := range int64(1001) {
		for _, got := range edgeNumbers() {
			c := impl.Count{Sent: sent, Got: got}
			for times := range 140 {
				if state := impl.StateOf(c); (times >= 32 || sent > 255) && state != impl.StOff {
					t.Fatalf("from %d, %d on, having failed %d times: %+v is %d", sent, got, times, c, state)
				}
				c = impl.SentBad(c)
			}
			if c.Sent != 1000 || c.Got != got {
				t.Fatalf("from %d, %d on: %+v at last", sent, got, c)
			}
		}
	}
}

// Promise 8, where it is sent well in between, and heard well and badly: at most 7 times well for each failure do not
// save it; 8 times do.
func TestPromise8WellBetween(t *testing.T) {
	for well := range 12 {
		c := impl.Count{}
		wasOff := false
		for range 300 {
			c = impl.GotWell(impl.GotBad(impl.SentBad(c)))
			wasOff = wasOff || impl.StateOf(c) == impl.StOff
			c = afterTimes(impl.SentWell, c, well)
		}
		if wasOff != (well <= 7) {
			t.Fatalf("with %d times well for each failure: %+v, off: %v", well, c, wasOff)
		}
	}
}

// Promise 8: each SentWell makes Sent less by one, till it is 0; there it stays.
func TestPromise8WellAgain(t *testing.T) {
	for _, got := range edgeNumbers() {
		c := impl.Count{Sent: 1000, Got: got}
		for left := int64(999); left >= -20; left-- {
			c = impl.SentWell(c)
			if want := (impl.Count{Sent: max(left, 0), Got: got}); c != want {
				t.Fatalf("%+v, not %+v", c, want)
			}
			checkState(t, c, stateByEye(c))
		}
	}
}

// reached are all Counts to which these functions come from the first one on, in whatever order they are called.
func reached(first impl.Count, steps ...func(impl.Count) impl.Count) map[impl.Count]bool {
	all := map[impl.Count]bool{first: true}
	for list := []impl.Count{first}; len(list) > 0; list = list[1:] {
		for _, after := range steps {
			if c := after(list[0]); !all[c] {
				all[c] = true
				list = append(list, c)
			}
		}
	}
	return all
}

// Promise 8: nobody is off who never failed at sending, in whatever order the other three are called.
func TestPromise8NobodyElse(t *testing.T) {
	all := reached(impl.Count{}, impl.SentWell, impl.GotWell, impl.GotBad)
	for c := range all {
		if impl.StateOf(c) == impl.StOff || impl.StateOf(c) == -1 || c.Sent != 0 {
			t.Fatalf("%+v was met: %d", c, impl.StateOf(c))
		}
	}
	// Failing at hearing it has come to each Got, but no further.
	if len(all) != 1001 || !all[impl.Count{Got: 1000}] {
		t.Errorf("%d were met", len(all))
	}
	if only := reached(impl.Count{}, impl.SentWell, impl.GotWell); len(only) != 1 {
		t.Errorf("who never failed in any way has %v", only)
	}
	c := afterTimes(impl.GotBad, impl.Count{}, 5000)
	if c != (impl.Count{Got: 1000}) || impl.StateOf(c) != impl.StMild {
		t.Errorf("who fails at hearing again and again has %+v", c)
	}
}

// Promise 8, from each Count: the three make nobody off who was not, and none of them makes Sent more.
func TestPromise8NobodyElseFromEach(t *testing.T) {
	three := []func(impl.Count) impl.Count{impl.SentWell, impl.GotWell, impl.GotBad}
	for sent := range int64(1001) {
		for got := range int64(1001) {
			c := impl.Count{Sent: sent, Got: got}
			for i, step := range three {
				after := step(c)
				if after.Sent > sent || impl.StateOf(after) == impl.StOff && impl.StateOf(c) != impl.StOff {
					t.Fatalf("%d of the three makes %+v of %+v", i, after, c)
				}
			}
		}
	}
}

// Promise 8, through all four: each Count to which they come from the zero Count on is right, and all of those that
// there are come about.
func TestPromise8All(t *testing.T) {
	all := reached(impl.Count{}, impl.SentWell, impl.GotWell, impl.SentBad, impl.GotBad)
	for c := range all {
		if !impl.CountOk(c) {
			t.Fatalf("%+v was met", c)
		}
	}
	if len(all) != 1001*1001 {
		t.Errorf("%d were met", len(all))
	}
}

// Promise 20, for this layer: every function answers at every argument and none panics; arguments stay.
func TestCountsAnswerAtAll(t *testing.T) {
	list := wrongCounts()
	for _, sent := range edgeNumbers() {
		for _, got := range edgeNumbers() {
			list = append(list, impl.Count{Sent: sent, Got: got})
		}
	}
	for _, c := range list {
		before := c
		mustAnswer(t, func() {
			impl.CountOk(c)
			impl.StateOf(c)
			impl.SentWell(c)
			impl.GotWell(c)
			impl.SentBad(c)
			impl.GotBad(c)
		}, before)
		if c != before {
			t.Fatalf("%+v has become %+v", before, c)
		}
	}
}

// Promise 20, for this layer: nothing is kept from call to call, and no answer changes with another one.
func TestCountsKeepNothing(t *testing.T) {
	c := impl.Count{Sent: 250, Got: 130}
	for range 3 {
		for _, s := range countSteps() {
			first := s.after(c)
			first.Sent, first.Got = -1, 5000
			checkStep(t, s, c, s.byEye(c))
			checkStep(t, s, first, impl.Count{})
			checkStep(t, s, impl.Count{Sent: 1000, Got: 1000}, s.byEye(impl.Count{Sent: 1000, Got: 1000}))
			checkStep(t, s, c, s.byEye(c))
		}
		checkState(t, c, impl.StMild)
		checkState(t, impl.Count{Sent: -1}, -1)
		checkState(t, impl.SentBad(c), impl.StOff)
		checkState(t, impl.Count{}, impl.StHard)
		checkState(t, c, impl.StMild)
	}
}
