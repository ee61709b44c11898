package tests

import (
	"cmp"
	"math/big"
	"slices"
	"testing"

	"loop.example/g00753/impl"
)

// outOfTime is true where it is no offset, no delay and no seq.
func outOfTime(n int64) bool {
	return uint64(n) > 100000
}

// frameForByEye counts in bytes, which come round by themselves.
func frameForByEye(table []impl.Msg, i, seq int64) impl.Frame {
	if refusedByEye(table, i) || outOfTime(seq) {
		return impl.Frame{}
	}
	f := impl.Frame{Id: table[i].Id, Len: table[i].Bytes}
	for next := byte(seq); len(f.Data) < int(f.Len); next += 7 {
		f.Data = append(f.Data, int64(next))
	}
	return f
}

// delayByEye goes round the delays one by one.
func delayByEye(m impl.Msg, turn int64, delays []int64) int64 {
	if len(delays) == 0 {
		return 0
	}
	place := 0
	for range turn {
		if place++; place == len(delays) {
			place = 0
		}
	}
	whole := delays[place] / (m.Jitter + 1)
	return delays[place] - whole*(m.Jitter+1)
}

// releasesByEye goes through the bits up to until, and writes down who arrives in each of them. By whom and which seq a
// release is, and when it is there, is one number then: the least 400 of these are told.
func releasesByEye(table []impl.Msg, offsets, delays []int64, until int64) []impl.Release {
	if codeByEye(table) != 0 || slices.ContainsFunc(offsets, outOfTime) || slices.ContainsFunc(delays, outOfTime) || uint64(until) > 5000 {
		return nil
	}
	next, seqs := make([]int64, len(table)), make([]int64, len(table))
	for i := range min(len(table), len(offsets)) {
		next[i] = offsets[i] - offsets[i]/table[i].Period*table[i].Period
	}
	all := map[int64]impl.Release{}
	var keys []int64
	for now := range until {
		for i, m := range table {
			if next[i] != now {
				continue
			}
			r := impl.Release{Msg: int64(i), Seq: seqs[i], Arrived: now}
			r.At = now + delayByEye(m, r.Msg+r.Seq, delays)
			key := (r.At*12+r.Msg)*5000 + r.Seq
			all[key], keys = r, append(keys, key)
			next[i], seqs[i] = now+m.Period, seqs[i]+1
		}
	}
	slices.Sort(keys)
	var list []impl.Release
	for _, key := range keys[:min(400, len(keys))] {
		list = append(list, all[key])
	}
	return list
}

// stage is a wire to play on.
type stage struct {
	put func(node int64, f impl.Frame) int64
	run func(bits int64) []impl.Event
}

// servedStage is told in the other way of chapter 14.
func servedStage(nodes int64) stage {
	s := impl.Server{Boxes: make([][]impl.Frame, nodes)}
	return stage{
		put: func(node int64, f impl.Frame) (code int64) {
			s, code = serverPutByEye(s, node, f)
			return code
		},
		run: func(bits int64) (events []impl.Event) {
			s, events = servedByEye(s, bits)
			return events
		},
	}
}

// busStage goes many bits at once.
func busStage(nodes int64) stage {
	b := impl.Bus{Nodes: make([]impl.Node, nodes)}
	return stage{
		put: func(node int64, f impl.Frame) (code int64) {
			b, code = impl.QueuedAt(b, node, f)
			return code
		},
		run: func(bits int64) (events []impl.Event) {
			b, events = impl.RunFor(b, bits)
			return events
		},
	}
}

// way is one of the two in which a list is played, and that way by eye.
type way struct {
	name  string
	play  func(table []impl.Msg, list []impl.Release, bits int64) ([]impl.Done, int64)
	stage func(nodes int64) stage
}

func bothWays() []way {
	return []way{{"PlayedOn", impl.PlayedOn, servedStage}, {"PlayedBus", impl.PlayedBus, busStage}}
}

// putting is a release that was put, and the code.
type putting struct {
	impl.Release
	code int64
}

// onStage goes from release to release: all of them are put, and all that happened is told, before anything is made of it.
func onStage(s stage, table []impl.Msg, list []impl.Release, bits int64) (puts []putting, events []impl.Event) {
	list = slices.Clone(list)
	slices.SortStableFunc(list, func(a, b impl.Release) int { return cmp.Compare(a.At, b.At) })
	now := int64(0)
	for _, r := range list {
		if r.At < 0 || r.At >= bits {
			continue
		}
		events = append(events, s.run(r.At-now)...)
		now = r.At
		puts = append(puts, putting{r, s.put(table[r.Msg].Node, frameForByEye(table, r.Msg, r.Seq))})
	}
	return puts, append(events, s.run(bits-now)...)
}

// playedByEye looks back from each frame that was sent for the release that was put last.
func playedByEye(w way, table []impl.Msg, list []impl.Release, bits int64) ([]impl.Done, int64) {
	wrong := func(r impl.Release) bool { return refusedByEye(table, r.Msg) || outOfTime(r.Seq) }
	if codeByEye(table) != 0 || uint64(bits) > 5000 || len(list) > 400 || slices.ContainsFunc(list, wrong) {
		return nil, -1
	}
	nodes := int64(2)
	for _, m := range table {
		nodes = max(nodes, m.Node+1)
	}
	puts, events := onStage(w.stage(nodes), table, list, bits)
	var done []impl.Done
	for _, e := range events {
		for _, p := range slices.Backward(puts) {
			if e.Kind == 1 && p.code < 2 && p.At <= e.At && table[p.Msg].Id == e.Frame.Id {
				done = append(done, impl.Done{Msg: p.Msg, Seq: p.Seq, Arrived: p.Arrived, At: e.At})
				break
			}
		}
	}
	notOk := int64(0)
	for _, p := range puts {
		if p.code != 0 {
			notOk++
		}
	}
	return done, notOk
}

// waitedMore is At and 1, less Arrived, more than the bound, in numbers of any size.
func waitedMore(d impl.Done, bound int64) bool {
	waited := new(big.Int).Add(big.NewInt(d.At), big.NewInt(1))
	waited.Sub(waited, big.NewInt(d.Arrived))
	return waited.Cmp(big.NewInt(bound)) > 0
}

// lateByEye takes away those that are in time.
func lateByEye(table []impl.Msg, list []impl.Done) []impl.Done {
	if codeByEye(table) != 0 {
		return nil
	}
	bounds := map[int64]int64{}
	return slices.DeleteFunc(slices.Clone(list), func(d impl.Done) bool {
		if refusedByEye(table, d.Msg) {
			return false
		}
		if _, met := bounds[d.Msg]; !met {
			bound, ok := boundByEye(table, d.Msg)
			if !ok {
				bound = -1
			}
			bounds[d.Msg] = bound
		}
		return bounds[d.Msg] >= 0 && !waitedMore(d, bounds[d.Msg])
	})
}

// releasesWithRoom is the list with other releases in the spare room behind it, and all of it.
func releasesWithRoom(list []impl.Release) (given, all []impl.Release) {
	all = slices.Concat(list, []impl.Release{{}, {At: -1, Msg: -1}, {At: 1, Seq: 7}, {Seq: -5, Arrived: 3}})
	return all[:len(list)], all
}

func donesWithRoom(list []impl.Done) (given, all []impl.Done) {
	all = slices.Concat(list, []impl.Done{{}, {At: 100000}, {Msg: -1}, {Seq: -5, Arrived: 3}})
	return all[:len(list)], all
}

// checkFrameFor fails where FrameFor does not answer this frame, where it writes into the table or behind it, and where
// the answer is not new memory.
func checkFrameFor(t *testing.T, table []impl.Msg, i, seq int64, want impl.Frame) {
	t.Helper()
	given, all := tableWithRoom(table)
	before := slices.Clone(all)
	first, second := impl.FrameFor(given, i, seq), impl.FrameFor(given, i, seq)
	if !sameFrames(first, want) || !sameFrames(frameForByEye(table, i, seq), want) {
		t.Fatalf("FrameFor %+v, %d, %d: %+v, or %+v, not %+v", table, i, seq, first, frameForByEye(table, i, seq), want)
	}
	for place := range first.Data[:cap(first.Data)] {
		first.Data[:cap(first.Data)][place] = -9
	}
	if !sameFrames(second, want) || !sameFrames(impl.FrameFor(given, i, seq), want) {
		t.Fatalf("FrameFor %+v, %d, %d has changed with another answer", table, i, seq)
	}
	if !slices.Equal(all, before) {
		t.Fatalf("%+v, or what is behind it, has become %+v", table, all)
	}
}

// checkReleases is for ReleasesOf what checkFrameFor is for FrameFor; the offsets and the delays stay, too.
func checkReleases(t *testing.T, table []impl.Msg, offsets, delays []int64, until int64, want []impl.Release) {
	t.Helper()
	given, all := tableWithRoom(table)
	firsts, allFirsts := listWithSpare(offsets)
	laters, allLaters := listWithSpare(delays)
	before, firstsBefore, latersBefore := slices.Clone(all), slices.Clone(allFirsts), slices.Clone(allLaters)
	list, second := impl.ReleasesOf(given, firsts, laters, until), impl.ReleasesOf(given, firsts, laters, until)
	if byEye := releasesByEye(table, offsets, delays, until); !slices.Equal(list, want) || !slices.Equal(byEye, want) {
		t.Fatalf("ReleasesOf %+v, %v, %v, %d:\n%+v, or\n%+v, not\n%+v", table, offsets, delays, until, list, byEye, want)
	}
	for place := range list[:cap(list)] {
		list[:cap(list)][place] = impl.Release{At: -9}
	}
	if !slices.Equal(second, want) || !slices.Equal(impl.ReleasesOf(given, firsts, laters, until), want) {
		t.Fatalf("ReleasesOf %+v, %v, %v, %d has changed with another answer", table, offsets, delays, until)
	}
	if !slices.Equal(all, before) || !slices.Equal(allFirsts, firstsBefore) || !slices.Equal(allLaters, latersBefore) {
		t.Fatalf("%+v, %v or %v, or what is behind them, has become %+v, %v, %v", table, offsets, delays, all, allFirsts, allLaters)
	}
}

func checkReleasesByEye(t *testing.T, table []impl.Msg, offsets, delays []int64, until int64) []impl.Release {
	t.Helper()
	want := releasesByEye(table, offsets, delays, until)
	checkReleases(t, table, offsets, delays, until, want)
	return want
}

// checkPlay is for one of PlayedOn and PlayedBus what checkFrameFor is for FrameFor; the list stays, too.
func checkPlay(t *testing.T, w way, table []impl.Msg, list []impl.Release, bits int64, want []impl.Done, notOk int64) {
	t.Helper()
	given, all := tableWithRoom(table)
	releases, allReleases := releasesWithRoom(list)
	before, releasesBefore := slices.Clone(all), slices.Clone(allReleases)
	done, told := w.play(given, releases, bits)
	if !slices.Equal(done, want) || told != notOk {
		t.Fatalf("%s %+v, %+v, %d:\n%+v, %d, not\n%+v, %d", w.name, table, list, bits, done, told, want, notOk)
	}
	if byEye, by := playedByEye(w, table, list, bits); !slices.Equal(byEye, want) || by != notOk {
		t.Fatalf("%s %+v, %+v, %d is not told in the other way:\n%+v, %d, not\n%+v, %d", w.name, table, list, bits, byEye, by, want, notOk)
	}
	second, _ := w.play(given, releases, bits)
	for place := range done[:cap(done)] {
		done[:cap(done)][place] = impl.Done{At: -9}
	}
	if !slices.Equal(second, want) {
		t.Fatalf("%s %+v, %+v, %d has changed with another answer", w.name, table, list, bits)
	}
	if !slices.Equal(all, before) || !slices.Equal(allReleases, releasesBefore) {
		t.Fatalf("%+v or %+v, or what is behind them, has become %+v, %+v", table, list, all, allReleases)
	}
}

// checkPlayed is checkPlay of both ways, where they play alike.
func checkPlayed(t *testing.T, table []impl.Msg, list []impl.Release, bits int64, want []impl.Done, notOk int64) {
	t.Helper()
	for _, w := range bothWays() {
		checkPlay(t, w, table, list, bits, want, notOk)
	}
}

// checkLate is for LateIn what checkFrameFor is for FrameFor; the list stays, too.
func checkLate(t *testing.T, table []impl.Msg, list []impl.Done, want []impl.Done) {
	t.Helper()
	given, all := tableWithRoom(table)
	dones, allDones := donesWithRoom(list)
	before, donesBefore := slices.Clone(all), slices.Clone(allDones)
	late, second := impl.LateIn(given, dones), impl.LateIn(given, dones)
	if byEye := lateByEye(table, list); !slices.Equal(late, want) || !slices.Equal(byEye, want) {
		t.Fatalf("LateIn %+v, %+v:\n%+v, or\n%+v, not\n%+v", table, list, late, byEye, want)
	}
	for place := range late[:cap(late)] {
		late[:cap(late)][place] = impl.Done{At: -9}
	}
	if !slices.Equal(second, want) || !slices.Equal(impl.LateIn(given, dones), want) {
		t.Fatalf("LateIn %+v, %+v has changed with another answer", table, list)
	}
	if !slices.Equal(all, before) || !slices.Equal(allDones, donesBefore) {
		t.Fatalf("%+v or %+v, or what is behind them, has become %+v, %+v", table, list, all, allDones)
	}
}
