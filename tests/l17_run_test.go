package tests

import (
	"slices"
	"testing"

	"loop.example/g00753/impl"
)

// onNode is the message at another node.
func onNode(m impl.Msg, node int64) impl.Msg {
	return withField(m, 5, node)
}

// readyAt is a release that is there when it arrives.
func readyAt(at, msg, seq int64) impl.Release {
	return impl.Release{At: at, Msg: msg, Seq: seq, Arrived: at}
}

// doneAt is what comes of a release that is sent up to this bit.
func doneAt(r impl.Release, at int64) impl.Done {
	return impl.Done{Msg: r.Msg, Seq: r.Seq, Arrived: r.Arrived, At: at}
}

// sizeFor is how many bits the frame for that message and seq has.
func sizeFor(table []impl.Msg, i, seq int64) int64 {
	return lengthByEyeOf(frameForByEye(table, i, seq))
}

// besides are numbers past both ends of what is from 0 to most.
func besides(most int64) []int64 {
	list := []int64{-1, -2, most + 1, most + 2}
	for _, n := range farNumbers {
		if n < 0 || n > most {
			list = append(list, n)
		}
	}
	return list
}

// released are releases of which each row tells At, Msg, Seq and Arrived.
func released(rows [][4]int64) []impl.Release {
	var list []impl.Release
	for _, row := range rows {
		list = append(list, impl.Release{At: row[0], Msg: row[1], Seq: row[2], Arrived: row[3]})
	}
	return list
}

func TestRunConstants(t *testing.T) {
	if impl.MaxReleases != 400 {
		t.Errorf("MaxReleases is %d", impl.MaxReleases)
	}
}

func TestFrameForByHand(t *testing.T) {
	table := []impl.Msg{msgOf(5, 2, 9), msgOf(0, 8, 200), onNode(shaking(2047, 0, 20000, 20000), 5), msgOf(6, 1, 1)}
	for _, c := range []struct {
		i, seq int64
		want   impl.Frame
	}{
		{0, 0, dataFrame(5, 0, 7)}, {0, 1, dataFrame(5, 1, 8)}, {0, 248, dataFrame(5, 248, 255)}, {0, 249, dataFrame(5, 249, 0)}, {0, 250, dataFrame(5, 250, 1)},
		{1, 0, dataFrame(0, 0, 7, 14, 21, 28, 35, 42, 49)}, {1, 206, dataFrame(0, 206, 213, 220, 227, 234, 241, 248, 255)}, {1, 207, dataFrame(0, 207, 214, 221, 228, 235, 242, 249, 0)},
		{1, 255, dataFrame(0, 255, 6, 13, 20, 27, 34, 41, 48)}, {1, 256, dataFrame(0, 0, 7, 14, 21, 28, 35, 42, 49)}, {1, 257, dataFrame(0, 1, 8, 15, 22, 29, 36, 43, 50)},
		{1, 99999, dataFrame(0, 159, 166, 173, 180, 187, 194, 201, 208)}, {1, 100000, dataFrame(0, 160, 167, 174, 181, 188, 195, 202, 209)},
		{2, 0, dataFrame(2047)}, {2, 255, dataFrame(2047)}, {2, 256, dataFrame(2047)}, {2, 100000, dataFrame(2047)},
		{3, 0, dataFrame(6, 0)}, {3, 255, dataFrame(6, 255)}, {3, 256, dataFrame(6, 0)}, {3, 100000, dataFrame(6, 160)},
		{-1, 0, impl.Frame{}}, {4, 0, impl.Frame{}}, {0, -1, impl.Frame{}}, {0, 100001, impl.Frame{}}, {3, -256, impl.Frame{}}, {-1, -1, impl.Frame{}}, {4, 100001, impl.Frame{}},
	} {
		checkFrameFor(t, table, c.i, c.seq, c.want)
	}
	for _, n := range besides(3) {
		checkFrameFor(t, table, n, 1, impl.Frame{})
	}
	for _, n := range besides(100000) {
		for i := range int64(4) {
			checkFrameFor(t, table, i, n, impl.Frame{})
		}
	}
}

// Each number of bytes, and each seq till the bytes have come round, and some others.
func TestFrameForEach(t *testing.T) {
	table := tableOf(upTo(100, 108)...)
	for i := range int64(9) {
		for _, seq := range slices.Concat(upTo(0, 300), upTo(500, 520), upTo(65530, 65540), upTo(99990, 100000)) {
			f := impl.FrameFor(table, i, seq)
			if len(f.Data) != int(i) || !impl.FrameOk(f) || f.Remote {
				t.Fatalf("%+v of %d, %d", f, i, seq)
			}
			for k, b := range f.Data {
				if (b-seq-7*int64(k))%256 != 0 {
					t.Fatalf("%+v of %d, %d", f, i, seq)
				}
			}
			checkFrameFor(t, table, i, seq, frameForByEye(table, i, seq))
		}
	}
}

// Nothing but the Id and Bytes of that one message is in it.
func TestFrameForOtherFields(t *testing.T) {
	for _, m := range []impl.Msg{msgOf(5, 3, 1), onNode(shaking(5, 3, 20000, 20000), 5), withField(shaking(5, 3, 20000, 1), 4, 1)} {
		for place := range 12 {
			table := slices.Insert(tableOf(upTo(6, 16)...), place, m)
			checkFrameFor(t, table, int64(place), 254, dataFrame(5, 254, 5, 12))
		}
	}
}

// Until: what arrives just then is left out; what arrives ahead of it is there whenever it comes.
func TestReleasesUntil(t *testing.T) {
	two := []impl.Msg{msgOf(0, 0, 200), shaking(2, 0, 300, 10)}
	for _, c := range []struct {
		offsets, delays []int64
		until           int64
		want            [][4]int64
	}{
		{nil, nil, -1, nil}, {nil, nil, 0, nil}, {nil, nil, 5001, nil},
		{nil, nil, 1, [][4]int64{{0, 0, 0, 0}, {0, 1, 0, 0}}},
		{nil, nil, 200, [][4]int64{{0, 0, 0, 0}, {0, 1, 0, 0}}},
		{nil, nil, 201, [][4]int64{{0, 0, 0, 0}, {0, 1, 0, 0}, {200, 0, 1, 200}}},
		{nil, nil, 301, [][4]int64{{0, 0, 0, 0}, {0, 1, 0, 0}, {200, 0, 1, 200}, {300, 1, 1, 300}}},
		{[]int64{50, 60}, nil, 50, nil},
		{[]int64{50, 60}, nil, 51, [][4]int64{{50, 0, 0, 50}}},
		{[]int64{50, 60}, nil, 61, [][4]int64{{50, 0, 0, 50}, {60, 1, 0, 60}}},
		{[]int64{50, 60}, []int64{9}, 61, [][4]int64{{50, 0, 0, 50}, {69, 1, 0, 60}}},
	} {
		checkReleases(t, two, c.offsets, c.delays, c.until, released(c.want))
	}
	for _, until := range besides(5000) {
		checkReleases(t, two, []int64{0}, []int64{5}, until, nil)
	}
	if list := checkReleasesByEye(t, two, nil, nil, 5000); len(list) != 25+17 || list[41] != readyAt(4800, 1, 16) {
		t.Error(list)
	}
	// The last bit of all, and the first one past it.
	late := []impl.Msg{msgOf(5, 0, 20000), shaking(6, 0, 20000, 20000)}
	checkReleases(t, late, []int64{4999, 5000}, nil, 5000, []impl.Release{readyAt(4999, 0, 0)})
	checkReleases(t, late, []int64{5000, 4999}, []int64{0, 40001, 20000}, 5000, released([][4]int64{{24999, 1, 0, 4999}}))
}

func TestReleasesOffsets(t *testing.T) {
	two := []impl.Msg{msgOf(0, 0, 200), shaking(2, 0, 300, 10)}
	for _, c := range []struct {
		offsets []int64
		until   int64
		want    [][4]int64
	}{
		// Fewer than messages, and more.
		{[]int64{}, 1, [][4]int64{{0, 0, 0, 0}, {0, 1, 0, 0}}},
		{[]int64{30}, 31, [][4]int64{{0, 1, 0, 0}, {30, 0, 0, 30}}},
		{[]int64{30, 40, 50, 100000, 0}, 60, [][4]int64{{30, 0, 0, 30}, {40, 1, 0, 40}}},
		// Modulo Period.
		{[]int64{199, 299}, 350, [][4]int64{{199, 0, 0, 199}, {299, 1, 0, 299}}},
		{[]int64{200, 300}, 150, [][4]int64{{0, 0, 0, 0}, {0, 1, 0, 0}}},
		{[]int64{201, 301}, 150, [][4]int64{{1, 0, 0, 1}, {1, 1, 0, 1}}},
		{[]int64{400, 601}, 150, [][4]int64{{0, 0, 0, 0}, {1, 1, 0, 1}}},
		{[]int64{99999, 100000}, 210, [][4]int64{{100, 1, 0, 100}, {199, 0, 0, 199}}},
	} {
		checkReleases(t, two, c.offsets, nil, c.until, released(c.want))
	}
	checkReleases(t, two, []int64{0, 305}, []int64{20}, 400, released([][4]int64{{0, 0, 0, 0}, {14, 1, 0, 5}, {200, 0, 1, 200}, {314, 1, 1, 305}}))
}

// Delays go by the message and the seq together, round and round, modulo Jitter and 1.
func TestReleasesDelays(t *testing.T) {
	two := []impl.Msg{msgOf(0, 0, 200), shaking(2, 0, 300, 10)}
	three := []impl.Msg{shaking(9, 1, 1000, 500), shaking(3, 2, 1000, 500), shaking(5, 8, 1000, 500)}
	for _, c := range []struct {
		table  []impl.Msg
		delays []int64
		until  int64
		want   [][4]int64
	}{
		{three, nil, 1, [][4]int64{{0, 0, 0, 0}, {0, 1, 0, 0}, {0, 2, 0, 0}}},
		{three, []int64{}, 1, [][4]int64{{0, 0, 0, 0}, {0, 1, 0, 0}, {0, 2, 0, 0}}},
		{three, []int64{500}, 1, [][4]int64{{500, 0, 0, 0}, {500, 1, 0, 0}, {500, 2, 0, 0}}},
		{three, []int64{100, 200, 300}, 1001, [][4]int64{{100, 0, 0, 0}, {200, 1, 0, 0}, {300, 2, 0, 0}, {1100, 2, 1, 1000}, {1200, 0, 1, 1000}, {1300, 1, 1, 1000}}},
		{three, []int64{100, 200}, 1001, [][4]int64{{100, 0, 0, 0}, {100, 2, 0, 0}, {200, 1, 0, 0}, {1100, 1, 1, 1000}, {1200, 0, 1, 1000}, {1200, 2, 1, 1000}}},
		{three, []int64{100, 200, 300, 400, 0}, 1, [][4]int64{{100, 0, 0, 0}, {200, 1, 0, 0}, {300, 2, 0, 0}}},
		{three, []int64{500, 501, 502}, 1, [][4]int64{{0, 1, 0, 0}, {1, 2, 0, 0}, {500, 0, 0, 0}}},
		{three, []int64{1002, 99999, 100000}, 1, [][4]int64{{0, 0, 0, 0}, {300, 1, 0, 0}, {301, 2, 0, 0}}},
		{two, []int64{10, 11}, 601, [][4]int64{{0, 0, 0, 0}, {0, 1, 0, 0}, {200, 0, 1, 200}, {310, 1, 1, 300}, {400, 0, 2, 400}, {600, 0, 3, 600}, {600, 1, 2, 600}}},
		// Without Jitter no delay does anything.
		{two[:1], []int64{1, 7, 100000}, 401, [][4]int64{{0, 0, 0, 0}, {200, 0, 1, 200}, {400, 0, 2, 400}}},
	} {
		checkReleases(t, c.table, nil, c.delays, c.until, released(c.want))
	}
}

// By At, not by arrival; where that is alike by message, and then by seq.
func TestReleasesOrder(t *testing.T) {
	apart := []impl.Msg{msgOf(7, 0, 1000), shaking(3, 0, 1000, 400)}
	checkReleases(t, apart, []int64{100, 50}, []int64{0, 300}, 101, released([][4]int64{{100, 0, 0, 100}, {350, 1, 0, 50}}))
	checkReleases(t, apart, []int64{100, 50}, []int64{0, 51}, 101, released([][4]int64{{100, 0, 0, 100}, {101, 1, 0, 50}}))
	checkReleases(t, apart, []int64{100, 50}, []int64{0, 50}, 101, released([][4]int64{{100, 0, 0, 100}, {100, 1, 0, 50}}))
	checkReleases(t, apart, []int64{100, 50}, []int64{0, 49}, 101, released([][4]int64{{99, 1, 0, 50}, {100, 0, 0, 100}}))
	// Two times of one message at once, as its Jitter is its Period.
	again := []impl.Msg{shaking(5, 0, 100, 100)}
	checkReleases(t, again, nil, []int64{100, 0}, 400, released([][4]int64{{100, 0, 0, 0}, {100, 0, 1, 100}, {300, 0, 2, 200}, {300, 0, 3, 300}}))
	// The message goes ahead of the seq: what is less of the one message is more of the other one.
	both := []impl.Msg{shaking(5, 0, 100, 100), shaking(9, 0, 300, 300), msgOf(1, 0, 400)}
	checkReleases(t, both, nil, []int64{100, 300, 0, 0}, 301, released([][4]int64{{0, 2, 0, 0}, {100, 0, 0, 0}, {198, 0, 1, 100}, {200, 0, 2, 200}, {300, 0, 3, 300}, {300, 1, 0, 0}, {300, 1, 1, 300}}))
}

// An offset or a delay that is out of range is enough, wherever it stands, also past the end of the table, and whatever
// until is.
func TestReleasesOutOfRange(t *testing.T) {
	table := []impl.Msg{msgOf(0, 0, 200), shaking(2, 0, 300, 10)}
	for _, n := range besides(100000) {
		for place := range 5 {
			list := []int64{0, 1, 100000, 7}
			wrong := slices.Insert(slices.Clone(list), place, n)
			for _, until := range []int64{-1, 0, 1, 400, 5000, 5001} {
				checkReleases(t, table, wrong, nil, until, nil)
				checkReleases(t, table, nil, wrong, until, nil)
				checkReleases(t, table, wrong, list, until, nil)
				checkReleases(t, table, list, wrong, until, nil)
				checkReleases(t, table, wrong, wrong, until, nil)
			}
		}
	}
	for _, n := range []int64{0, 1, 99999, 100000} {
		list := []int64{n, n, n, n}
		if len(checkReleasesByEye(t, table, list, nil, 400)) < 3 || len(checkReleasesByEye(t, table, nil, list, 400)) < 3 {
			t.Errorf("%d is refused", n)
		}
	}
}

// As many as there may be, and one more; those that are left out are the last ones by At, whenever they arrive.
func TestReleasesFirst400(t *testing.T) {
	often := []impl.Msg{msgOf(5, 0, 10)}
	for until, want := range map[int64]int{3981: 399, 3990: 399, 3991: 400, 4000: 400, 4001: 400, 4011: 400, 5000: 400} {
		if list := checkReleasesByEye(t, often, nil, nil, until); len(list) != want || list[want-1] != readyAt(int64(want-1)*10, 0, int64(want-1)) {
			t.Errorf("up to %d there are %d", until, len(list))
		}
	}
	// 399 of the first message are there ahead of the only one of the second message, and 18 behind that.
	late := []impl.Msg{shaking(5, 0, 12, 12), msgOf(9, 0, 5000)}
	list := checkReleasesByEye(t, late, []int64{0, 4799}, []int64{12}, 5000)
	if len(list) != 400 || list[398] != (impl.Release{At: 4788, Msg: 0, Seq: 398, Arrived: 4776}) || list[399] != readyAt(4799, 1, 0) {
		t.Error(list[398:])
	}
	// At one At the lesser message is there, the greater one is left out.
	list = checkReleasesByEye(t, []impl.Msg{msgOf(9, 0, 12), msgOf(5, 0, 24), msgOf(7, 0, 4000)}, []int64{0, 0, 3192}, nil, 5000)
	if len(list) != 400 || list[399] != readyAt(3192, 0, 266) {
		t.Error(list[398:])
	}
	// Twelve messages in each bit.
	each := tableOf(upTo(0, 11)...)
	for i := range each {
		each[i] = shaking(int64(11-i), 8, 1, 1)
	}
	list = checkReleasesByEye(t, each, nil, nil, 5000)
	if len(list) != 400 || list[399] != readyAt(33, 3, 33) {
		t.Error(list[399])
	}
	checkReleasesByEye(t, each, upTo(1, 12), []int64{1, 0, 0, 1, 1}, 5000)
}

func TestReleasesOfWrongTables(t *testing.T) {
	for _, table := range wrongTables() {
		checkReleases(t, table, nil, nil, 1, nil)
		checkReleases(t, table, []int64{3}, []int64{4}, 5000, nil)
		checkReleases(t, table, []int64{-1}, []int64{-1}, -1, nil)
	}
}

// Tables, offsets and delays of all kinds, by eye.
func TestReleasesOfManyTables(t *testing.T) {
	d := dice(170)
	numbers := func() (list []int64) {
		for range d.below(4) * d.below(6) {
			list = append(list, int64(d.below([]int{3, 50, 1000, 100001}[d.below(4)])))
		}
		if d.below(15) == 0 {
			list = append(list, []int64{-1, 0, 100000, 100001}[d.below(4)])
		}
		return list
	}
	some, full := 0, 0
	for range 1500 {
		table := someTable(&d)
		for i := range table {
			if d.below(3) > 0 && msgByEye(table[i]) {
				table[i].Period = 1 + int64(d.below([]int{20, 100, 600}[d.below(3)]))
				table[i].Jitter, table[i].Deadline = int64(d.below(int(table[i].Period)+1)), 1
			}
		}
		until := []int64{-1, 0, 1, 5000, 5001, int64(d.below(5001)), int64(d.below(300)), int64(d.below(300))}[d.below(8)]
		switch list := checkReleasesByEye(t, table, numbers(), numbers(), until); {
		case len(list) == 400:
			full++
		case len(list) > 0:
			some++
		}
	}
	if some < 300 || full < 100 {
		t.Errorf("%d lists, and %d with 400 releases", some, full)
	}
}
