package tests

import (
	"slices"
	"testing"

	"loop.example/g00753/impl"
)

// costsByHand are the most bits that a message of so many bytes takes, with the pause behind it.
var costsByHand = []int64{55, 65, 75, 85, 95, 105, 115, 125, 135}

// msgFields are the six fields of a message, in the order in which the chapter tells of them.
const msgFields = 6

func fieldOf(m *impl.Msg, place int) *int64 {
	return []*int64{&m.Id, &m.Bytes, &m.Period, &m.Jitter, &m.Deadline, &m.Node}[place]
}

func withField(m impl.Msg, place int, n int64) impl.Msg {
	*fieldOf(&m, place) = n
	return m
}

// fieldEnds are the least and the most that this field of the message may be.
func fieldEnds(m impl.Msg, place int) (int64, int64) {
	return []int64{0, 0, 1, 0, 1, 0}[place], []int64{2047, 8, 20000, m.Period, m.Period, 5}[place]
}

// msgByEye goes through the fields; those that are bound by Period come behind it.
func msgByEye(m impl.Msg) bool {
	for place := range msgFields {
		least, most := fieldEnds(m, place)
		if n := *fieldOf(&m, place); n < least || n > most {
			return false
		}
	}
	return true
}

// codeByEye counts what is wrong of each kind, and looks at the kinds only then.
func codeByEye(table []impl.Msg) int64 {
	wrong, twice := 0, 0
	for place, m := range table {
		if !msgByEye(m) {
			wrong++
		}
		for _, other := range table[:place] {
			if other.Id == m.Id {
				twice++
			}
		}
	}
	if len(table) == 0 || len(table) > 12 {
		return 1
	}
	if wrong > 0 {
		return 2
	}
	if twice > 0 {
		return 3
	}
	return 0
}

func higherByEye(table []impl.Msg, i int64) []int64 {
	var list []int64
	if codeByEye(table) != 0 || i < 0 || i >= int64(len(table)) {
		return nil
	}
	for place := range int64(len(table)) {
		if table[place].Id < table[i].Id {
			list = append(list, place)
		}
	}
	return list
}

// loadByEye looks for the least share of each that is enough: as many times Period as a million times its cost.
func loadByEye(table []impl.Msg) int64 {
	if codeByEye(table) != 0 {
		return -1
	}
	load := int64(0)
	for _, m := range table {
		need := costsByHand[m.Bytes] * 1000000
		share := need/m.Period - 2
		for share*m.Period < need {
			share++
		}
		load += share
	}
	return load
}

// behindTable are messages that stand in the spare room behind a table: right ones, one of an Id that is taken, wrong ones.
func behindTable(table []impl.Msg) []impl.Msg {
	list := []impl.Msg{{Id: 2000, Period: 10, Deadline: 10}, {}, {Id: -1, Period: -1}, {Bytes: 9, Period: 20001}}
	if len(table) > 0 {
		list = append(list, table[0])
	}
	return list
}

// tableWithRoom is the table with spare room behind it, and all of it: also what stands in that room.
func tableWithRoom(table []impl.Msg) (given []impl.Msg, all []impl.Msg) {
	all = slices.Concat(table, behindTable(table))
	return all[:len(table)], all
}

// checkTable fails where the functions of the chapter do not answer the code and what goes with it, or write into the
// table or behind it, or answer a list that is not new memory.
func checkTable(t *testing.T, table []impl.Msg, code int64) {
	t.Helper()
	given, all := tableWithRoom(table)
	before := slices.Clone(all)
	if told := impl.CodeOf(given); told != code || codeByEye(table) != code {
		t.Fatalf("CodeOf %+v: %d, by eye %d, not %d", table, told, codeByEye(table), code)
	}
	if load, want := impl.LoadOf(given), loadByEye(table); load != want || (load == -1) != (code != 0) {
		t.Fatalf("LoadOf %+v: %d, not %d", table, load, want)
	}
	for _, i := range slices.Concat(upTo(-2, int64(len(table))+2), farNumbers) {
		checkHigher(t, given, i, higherByEye(table, i))
	}
	for _, m := range given {
		want := int64(-1)
		if m.Bytes >= 0 && m.Bytes <= 8 {
			want = costsByHand[m.Bytes]
		}
		checkCost(t, m, want)
	}
	if !slices.Equal(all, before) {
		t.Fatalf("%+v, or what is behind it, has become %+v", table, all)
	}
}

// checkHigher fails where HigherOf does not answer this list, or one that is that of another call, too.
func checkHigher(t *testing.T, table []impl.Msg, i int64, want []int64) {
	t.Helper()
	first, second := impl.HigherOf(table, i), impl.HigherOf(table, i)
	if !slices.Equal(first, want) {
		t.Fatalf("HigherOf %+v, %d: %v, not %v", table, i, first, want)
	}
	for place := range first {
		first[place] = -7
	}
	_ = append(first, -8, -9)
	if third := impl.HigherOf(table, i); !slices.Equal(second, want) || !slices.Equal(third, want) {
		t.Fatalf("HigherOf %+v, %d has changed with another answer: %v, %v, not %v", table, i, second, third, want)
	}
}

func checkCost(t *testing.T, m impl.Msg, want int64) {
	t.Helper()
	if cost := impl.CostOf(m); cost != want {
		t.Fatalf("CostOf %+v: %d, not %d", m, cost, want)
	}
}

// msgOf is a right message without Jitter; its Deadline is its Period.
func msgOf(id, bytes, period int64) impl.Msg {
	return impl.Msg{Id: id, Bytes: bytes, Period: period, Deadline: period}
}

// tableOf has a right message of each Id, no two of them with the same other fields.
func tableOf(ids ...int64) []impl.Msg {
	var table []impl.Msg
	for i, id := range ids {
		n := int64(i)
		period := 200 + 300*n
		table = append(table, impl.Msg{Id: id, Bytes: n % 9, Period: period, Jitter: n * 11, Deadline: period - 5*n, Node: n % 6})
	}
	return table
}

// fullTable has as many messages as a table may have; the Ids are in no order.
func fullTable() []impl.Msg {
	return tableOf(700, 3, 2047, 0, 1024, 9, 8, 1500, 2046, 1, 64, 100)
}

// wrongMsgs are messages of which one field is out of range, by little or by much; all else is right.
func wrongMsgs() []impl.Msg {
	var list []impl.Msg
	for _, m := range []impl.Msg{msgOf(5, 3, 400), {Id: 9, Bytes: 8, Period: 20000, Jitter: 20000, Deadline: 20000, Node: 5}, {Period: 1, Deadline: 1}} {
		for place := range msgFields {
			least, most := fieldEnds(m, place)
			for _, n := range append([]int64{least - 1, least - 2, most + 1, most + 2, -1, -2}, farNumbers...) {
				if n < least || n > most {
					list = append(list, withField(m, place, n))
				}
			}
		}
	}
	return list
}

func TestTableConstants(t *testing.T) {
	if impl.MaxPeriod != 20000 || impl.MaxMsgs != 12 {
		t.Errorf("MaxPeriod %d, MaxMsgs %d", impl.MaxPeriod, impl.MaxMsgs)
	}
	if impl.TbOk != 0 || impl.TbSize != 1 || impl.TbMsg != 2 || impl.TbTwice != 3 {
		t.Errorf("the codes are %d, %d, %d, %d", impl.TbOk, impl.TbSize, impl.TbMsg, impl.TbTwice)
	}
}

// As many messages as there may be, fewer and more; these are right ones, and no two have one Id.
func TestTableSizes(t *testing.T) {
	checkTable(t, nil, impl.TbSize)
	checkTable(t, []impl.Msg{}, impl.TbSize)
	checkTable(t, fullTable()[:0], impl.TbSize)
	for size := range 30 {
		code := int64(impl.TbOk)
		if size == 0 || size > 12 {
			code = impl.TbSize
		}
		for _, first := range []int64{0, 1000, 2018} {
			table := tableOf(upTo(first, first+int64(size)-1)...)
			checkTable(t, table, code)
			slices.Reverse(table)
			checkTable(t, table, code)
		}
	}
	checkTable(t, fullTable(), impl.TbOk)
	checkTable(t, append(fullTable(), msgOf(5, 1, 100)), impl.TbSize)
	for _, size := range []int{256, 257, 65536, 65537} {
		if code := impl.CodeOf(make([]impl.Msg, size)); code != impl.TbSize {
			t.Errorf("%d messages: %d", size, code)
		}
	}
}

// Each field at both of its ends and past them, alone and at each place of a longer table.
func TestTableFields(t *testing.T) {
	for _, c := range []struct {
		m  impl.Msg
		ok bool
	}{
		{msgOf(-1, 0, 9), false}, {msgOf(0, 0, 9), true}, {msgOf(2047, 0, 9), true}, {msgOf(2048, 0, 9), false},
		{msgOf(5, -1, 9), false}, {msgOf(5, 0, 9), true}, {msgOf(5, 8, 9), true}, {msgOf(5, 9, 9), false},
		{msgOf(5, 0, -1), false}, {msgOf(5, 0, 0), false}, {msgOf(5, 0, 1), true}, {msgOf(5, 0, 20000), true}, {msgOf(5, 0, 20001), false},
		{impl.Msg{Id: 5, Period: 0, Deadline: 1}, false}, {impl.Msg{Id: 5, Period: 20001, Deadline: 20000}, false},
		{impl.Msg{Id: 5, Period: 9, Deadline: 9, Jitter: -1}, false}, {impl.Msg{Id: 5, Period: 9, Deadline: 9, Jitter: 0}, true},
		{impl.Msg{Id: 5, Period: 9, Deadline: 9, Jitter: 9}, true}, {impl.Msg{Id: 5, Period: 9, Deadline: 9, Jitter: 10}, false},
		{impl.Msg{Id: 5, Period: 9, Deadline: 1, Jitter: 9}, true}, {impl.Msg{Id: 5, Period: 9, Deadline: 1, Jitter: 2}, true},
		{impl.Msg{Id: 5, Period: 9, Deadline: -1}, false}, {impl.Msg{Id: 5, Period: 9, Deadline: 0}, false}, {impl.Msg{Id: 5, Period: 9, Deadline: 1}, true},
		{impl.Msg{Id: 5, Period: 9, Deadline: 9}, true}, {impl.Msg{Id: 5, Period: 9, Deadline: 10}, false},
		{impl.Msg{Id: 5, Period: 9, Deadline: 9, Node: -1}, false}, {impl.Msg{Id: 5, Period: 9, Deadline: 9, Node: 0}, true},
		{impl.Msg{Id: 5, Period: 9, Deadline: 9, Node: 5}, true}, {impl.Msg{Id: 5, Period: 9, Deadline: 9, Node: 6}, false},
		{impl.Msg{Period: 20000, Jitter: 20000, Deadline: 20000}, true}, {impl.Msg{Period: 20000, Jitter: 20001, Deadline: 20000}, false}, {impl.Msg{Period: 20000, Jitter: 20000, Deadline: 20001}, false},
		{impl.Msg{Period: 1, Jitter: 1, Deadline: 1}, true}, {impl.Msg{Period: 1, Jitter: 2, Deadline: 1}, false}, {impl.Msg{Period: 1, Deadline: 2}, false},
		{impl.Msg{Id: 2047, Bytes: 8, Period: 20000, Jitter: 20000, Deadline: 20000, Node: 5}, true}, {impl.Msg{}, false},
	} {
		code := int64(impl.TbOk)
		if !c.ok {
			code = impl.TbMsg
		}
		checkTable(t, []impl.Msg{c.m}, code)
		for size := 1; size < 12; size++ {
			for place := 0; place <= size; place += 1 + size/3 {
				checkTable(t, slices.Insert(tableOf(upTo(6, 5+int64(size))...), place, c.m), code)
			}
		}
	}
}

func TestTableWrongMsgs(t *testing.T) {
	for i, m := range wrongMsgs() {
		checkTable(t, []impl.Msg{m}, impl.TbMsg)
		table := tableOf(10, 2, 300, 4, 1000)
		checkTable(t, slices.Insert(table, i%6, m), impl.TbMsg)
	}
}

// Two of one Id, at each two places of tables of each size; whether all else of them is the same does not matter.
func TestTableTwice(t *testing.T) {
	for size := 2; size <= 12; size++ {
		for second := range size {
			for first := range second {
				table := slices.Clone(fullTable()[:size])
				table[second].Id = table[first].Id
				checkTable(t, table, impl.TbTwice)
				table[second] = table[first]
				checkTable(t, table, impl.TbTwice)
				table[0].Id, table[size-1].Id = 0, 0
				checkTable(t, table, impl.TbTwice)
			}
		}
		checkTable(t, slices.Repeat(fullTable()[:1], size), impl.TbTwice)
	}
	// What is alike in all but the Id is not of one Id.
	checkTable(t, []impl.Msg{msgOf(5, 1, 100), msgOf(6, 1, 100), msgOf(4, 1, 100)}, impl.TbOk)
}

// Where several codes apply it is the one named first.
func TestTableFirstCode(t *testing.T) {
	right := tableOf(upTo(20, 31)...)
	for i, wrong := range wrongMsgs() {
		place := i % 12
		thirteen := slices.Insert(slices.Clone(right), place, wrong)
		checkTable(t, thirteen, impl.TbSize)
		thirteen[(place+1)%13].Id = thirteen[(place+2)%13].Id
		checkTable(t, thirteen, impl.TbSize)
		twelve := slices.Clone(right)
		twelve[place] = wrong
		twelve[(place+1)%12].Id = twelve[(place+7)%12].Id
		checkTable(t, twelve, impl.TbMsg)
		// The wrong one is one of the two of one Id, as well.
		checkTable(t, []impl.Msg{wrong, msgOf(1, 1, 1), wrong}, impl.TbMsg)
		checkTable(t, []impl.Msg{msgOf(wrong.Id, 1, 1), wrong}, impl.TbMsg)
		checkTable(t, []impl.Msg{wrong, msgOf(wrong.Id, 1, 1)}, impl.TbMsg)
		checkTable(t, []impl.Msg{msgOf(1, 1, 1), msgOf(1, 1, 1), wrong}, impl.TbMsg)
		checkTable(t, []impl.Msg{wrong, msgOf(1, 1, 1), msgOf(1, 1, 1)}, impl.TbMsg)
	}
	checkTable(t, append(slices.Clone(right), right[0]), impl.TbSize)
	checkTable(t, append(slices.Clone(right), right[11]), impl.TbSize)
	checkTable(t, make([]impl.Msg, 13), impl.TbSize)
	checkTable(t, make([]impl.Msg, 12), impl.TbMsg)
	checkTable(t, make([]impl.Msg, 2), impl.TbMsg)
}

func TestHigherOfByHand(t *testing.T) {
	for _, c := range []struct {
		ids  []int64
		i    int64
		want []int64
	}{
		{[]int64{0}, 0, nil}, {[]int64{2047}, 0, nil}, {[]int64{9}, -1, nil}, {[]int64{9}, 1, nil}, {[]int64{9}, 2, nil},
		{[]int64{3, 7}, 0, nil}, {[]int64{3, 7}, 1, []int64{0}}, {[]int64{7, 3}, 0, []int64{1}}, {[]int64{7, 3}, 1, nil}, {[]int64{7, 3}, -1, nil}, {[]int64{7, 3}, 2, nil},
		{[]int64{7, 6}, 0, []int64{1}}, {[]int64{7, 8}, 0, nil}, {[]int64{0, 2047}, 1, []int64{0}}, {[]int64{2047, 0}, 0, []int64{1}},
		// In the order of the table, whatever the Ids are.
		{[]int64{50, 40, 30, 20, 10}, 0, []int64{1, 2, 3, 4}}, {[]int64{50, 40, 30, 20, 10}, 2, []int64{3, 4}}, {[]int64{50, 40, 30, 20, 10}, 4, nil}, {[]int64{10, 20, 30, 40, 50}, 4, []int64{0, 1, 2, 3}},
		{[]int64{30, 10, 50, 20, 40}, 0, []int64{1, 3}}, {[]int64{30, 10, 50, 20, 40}, 1, nil}, {[]int64{30, 10, 50, 20, 40}, 2, []int64{0, 1, 3, 4}}, {[]int64{30, 10, 50, 20, 40}, 3, []int64{1}},
		{[]int64{30, 10, 50, 20, 40}, 4, []int64{0, 1, 3}}, {[]int64{30, 10, 50, 20, 40}, 5, nil}, {[]int64{30, 10, 50, 20, 40}, -1, nil},
		// A message counts by its Id, not by its place.
		{[]int64{2, 1, 0}, 0, []int64{1, 2}}, {[]int64{2, 1, 0}, 1, []int64{2}}, {[]int64{2, 1, 0}, 2, nil},
	} {
		checkHigher(t, tableOf(c.ids...), c.i, c.want)
	}
	full := fullTable()
	checkHigher(t, full, 0, []int64{1, 3, 5, 6, 9, 10, 11})
	checkHigher(t, full, 2, []int64{0, 1, 3, 4, 5, 6, 7, 8, 9, 10, 11})
	checkHigher(t, full, 3, nil)
	checkHigher(t, full, 11, []int64{1, 3, 5, 6, 9, 10})
	checkHigher(t, full, 12, nil)
	checkHigher(t, full, -1, nil)
}

// Of each order in which few Ids stand.
func TestHigherOfEachOrder(t *testing.T) {
	orders := [][]int64{{}}
	for id := range int64(6) {
		var longer [][]int64
		for _, order := range orders {
			for place := 0; place <= len(order); place++ {
				longer = append(longer, slices.Insert(slices.Clone(order), place, id*409))
			}
		}
		orders = longer
		for _, order := range orders {
			checkTable(t, tableOf(order...), impl.TbOk)
		}
	}
	if len(orders) != 720 {
		t.Errorf("%d orders", len(orders))
	}
}

// Of a table that is not TbOk nothing, by each code, at each place.
func TestHigherOfRefused(t *testing.T) {
	big := tableOf(upTo(0, 12)...)
	wrong := tableOf(5, 3, 9)
	wrong[1].Node = 6
	twice := tableOf(5, 3, 9, 3)
	for _, table := range [][]impl.Msg{nil, big, wrong, twice} {
		for i := int64(-2); i < 16; i++ {
			checkHigher(t, table, i, nil)
		}
	}
}

func TestCostOf(t *testing.T) {
	for bytes, want := range costsByHand {
		checkCost(t, impl.Msg{Bytes: int64(bytes)}, want)
		if most := impl.MostLength(int64(bytes)); most+3 != want {
			t.Errorf("MostLength of %d bytes is %d", bytes, most)
		}
	}
	for past := int64(1); past < 300; past++ {
		checkCost(t, impl.Msg{Bytes: -past}, -1)
		checkCost(t, impl.Msg{Bytes: 8 + past}, -1)
	}
	for _, n := range farNumbers {
		checkCost(t, impl.Msg{Bytes: n}, -1)
	}
	// Eight times one of these comes round to what eight times a right number is.
	for shift := 61; shift < 64; shift++ {
		for k := range int64(9) {
			checkCost(t, impl.Msg{Bytes: 1<<shift + k}, -1)
			checkCost(t, impl.Msg{Bytes: -1<<shift + k}, -1)
		}
	}
}

// No field but Bytes matters, whether the message is right or not.
func TestCostOfBytesAlone(t *testing.T) {
	for place := range msgFields {
		if place == 1 {
			continue
		}
		for bytes := int64(-1); bytes <= 9; bytes++ {
			want := int64(-1)
			if bytes >= 0 && bytes <= 8 {
				want = costsByHand[bytes]
			}
			for _, n := range append([]int64{-1, 0, 1, 5, 6, 2047, 2048, 20000, 20001}, farNumbers...) {
				checkCost(t, withField(impl.Msg{Bytes: bytes}, place, n), want)
				checkCost(t, withField(msgOf(5, bytes, 100), place, n), want)
				checkCost(t, impl.Msg{Id: n, Bytes: bytes, Period: n, Jitter: n, Deadline: n, Node: n}, want)
			}
		}
	}
}

func TestLoadOfByHand(t *testing.T) {
	for _, c := range []struct {
		table []impl.Msg
		want  int64
	}{
		// One message, whose quotient is a whole number, or is not.
		{[]impl.Msg{msgOf(0, 0, 55)}, 1000000}, {[]impl.Msg{msgOf(0, 8, 135)}, 1000000}, {[]impl.Msg{msgOf(0, 0, 100)}, 550000}, {[]impl.Msg{msgOf(0, 8, 20000)}, 6750},
		{[]impl.Msg{msgOf(0, 0, 300)}, 183334}, {[]impl.Msg{msgOf(0, 1, 300)}, 216667}, {[]impl.Msg{msgOf(0, 0, 56)}, 982143}, {[]impl.Msg{msgOf(0, 0, 54)}, 1018519}, {[]impl.Msg{msgOf(7, 0, 19999)}, 2751},
		{[]impl.Msg{msgOf(0, 0, 1)}, 55000000}, {[]impl.Msg{msgOf(0, 8, 1)}, 135000000}, {[]impl.Msg{msgOf(0, 0, 20000)}, 2750}, {[]impl.Msg{msgOf(0, 0, 2)}, 27500000},
		// Rounded up one by one: together these would be 366667, 550000 and 600000.
		{[]impl.Msg{msgOf(1, 0, 300), msgOf(2, 0, 300)}, 366668}, {[]impl.Msg{msgOf(1, 0, 300), msgOf(2, 0, 300), msgOf(3, 0, 300)}, 550002}, {[]impl.Msg{msgOf(1, 0, 300), msgOf(2, 1, 300), msgOf(3, 2, 375)}, 600001},
		// More than the wire has.
		{[]impl.Msg{msgOf(0, 0, 55), msgOf(1, 0, 20000)}, 1002750}, {[]impl.Msg{msgOf(0, 8, 1), msgOf(1, 8, 1)}, 270000000}, {[]impl.Msg{msgOf(0, 0, 110), msgOf(1, 0, 110)}, 1000000},
	} {
		checkTable(t, c.table, impl.TbOk)
		if load := impl.LoadOf(c.table); load != c.want {
			t.Errorf("LoadOf %+v: %d, not %d", c.table, load, c.want)
		}
	}
	heavy := tableOf(upTo(0, 11)...)
	for i := range heavy {
		heavy[i].Bytes, heavy[i].Period, heavy[i].Jitter, heavy[i].Deadline = 8, 1, 0, 1
	}
	if load := impl.LoadOf(heavy); load != 1620000000 {
		t.Errorf("the greatest load is %d", load)
	}
}

// Neither Jitter nor Deadline nor Node nor Id is load.
func TestLoadOfOtherFields(t *testing.T) {
	table := fullTable()
	want := impl.LoadOf(table)
	for i := range table {
		for place, n := range []int64{2000, -1, -1, table[i].Period, 1, 5} {
			if n < 0 {
				continue
			}
			other := slices.Clone(table)
			other[i] = withField(other[i], place, n)
			if load := impl.LoadOf(other); load != want {
				t.Errorf("%+v: %d, not %d", other, load, want)
			}
		}
	}
}

func TestLoadOfEachPeriod(t *testing.T) {
	for period := int64(1); period <= 20000; period++ {
		table := []impl.Msg{msgOf(3, period%9, period)}
		if load, want := impl.LoadOf(table), loadByEye(table); load != want {
			t.Fatalf("LoadOf %+v: %d, not %d", table, load, want)
		}
	}
}

// someTable is a table of which many are right, and many are not by one thing or more.
func someTable(d *dice) []impl.Msg {
	var table []impl.Msg
	for range d.below(16) {
		m := impl.Msg{Id: int64(d.below(40)), Bytes: int64(d.below(9)), Period: 1 + int64(d.below(20000)), Node: int64(d.below(6))}
		if d.below(2) > 0 {
			m.Id = int64(d.below(2048))
		}
		m.Jitter, m.Deadline = int64(d.below(int(m.Period)+1)), 1+int64(d.below(int(m.Period)))
		if d.below(20) == 0 {
			place := d.below(msgFields)
			least, most := fieldEnds(m, place)
			m = withField(m, place, []int64{least - 1, least, most, most + 1}[d.below(4)])
		}
		table = append(table, m)
	}
	return table
}

// Promise 15: tables are told right by their codes, and all else of the chapter goes by them.
func TestPromise15(t *testing.T) {
	d := dice(15)
	var met [4]int
	for range 9000 {
		table := someTable(&d)
		code := codeByEye(table)
		checkTable(t, table, code)
		met[code]++
	}
	for code, count := range met {
		if count < 400 {
			t.Errorf("only %d tables of code %d", count, code)
		}
	}
}

// Promise 15: from a right table each code is one change away, and back again.
func TestPromise15OneChange(t *testing.T) {
	for size := 1; size <= 12; size++ {
		table := slices.Clone(fullTable()[:size])
		checkTable(t, table, impl.TbOk)
		for i := range table {
			for place := range msgFields {
				was := *fieldOf(&table[i], place)
				least, most := fieldEnds(table[i], place)
				for _, n := range []int64{least - 1, most + 1} {
					*fieldOf(&table[i], place) = n
					checkTable(t, table, impl.TbMsg)
				}
				*fieldOf(&table[i], place) = was
				checkTable(t, table, impl.TbOk)
			}
			if i > 0 {
				was := table[i].Id
				table[i].Id = table[i-1].Id
				checkTable(t, table, impl.TbTwice)
				table[i].Id = was
			}
		}
		checkTable(t, append(table, tableOf(upTo(1900, 1912)...)...), impl.TbSize)
	}
}

// Promise 20, for this layer: every function answers at every argument and none panics.
func TestTablesAnswerAtAll(t *testing.T) {
	tables := [][]impl.Msg{nil, {}, fullTable(), make([]impl.Msg, 12), make([]impl.Msg, 100000), append(fullTable(), fullTable()...)}
	for _, m := range wrongMsgs() {
		tables = append(tables, []impl.Msg{m}, []impl.Msg{msgOf(1, 1, 1), m})
	}
	for shift := range 64 {
		for _, n := range []int64{1<<shift - 1, 1 << shift, 1<<shift + 1, -1 << shift, -1<<shift - 1} {
			m := impl.Msg{Id: n, Bytes: n, Period: n, Jitter: n, Deadline: n, Node: n}
			tables = append(tables, []impl.Msg{m, m})
			for place := range msgFields {
				tables = append(tables, []impl.Msg{withField(msgOf(1, 1, 1), place, n)})
			}
			for _, table := range [][]impl.Msg{fullTable(), nil, {m}} {
				mustAnswer(t, func() { impl.HigherOf(table, n) }, table, n)
			}
			mustAnswer(t, func() { impl.CostOf(m) }, m)
		}
	}
	for _, table := range tables {
		mustAnswer(t, func() {
			impl.CodeOf(table)
			impl.LoadOf(table)
			for _, i := range append(upTo(-1, 13), farNumbers...) {
				impl.HigherOf(table, i)
			}
		}, len(table))
	}
}

// Promise 20, for this layer: what was answered stays when the table is changed, and another call tells the change.
func TestTablesKeepNothing(t *testing.T) {
	table := tableOf(30, 10, 20)
	first := impl.HigherOf(table, 0)
	table[1].Id = 40
	if !slices.Equal(first, []int64{1, 2}) {
		t.Errorf("what was answered has become %v", first)
	}
	checkHigher(t, table, 0, []int64{2})
	table[2].Id = 40
	checkTable(t, table, impl.TbTwice)
	table[2].Bytes = 9
	checkTable(t, table, impl.TbMsg)
	table[2] = msgOf(5, 0, 20000)
	for range 3 {
		checkTable(t, table, impl.TbOk)
		checkTable(t, nil, impl.TbSize)
		checkTable(t, fullTable(), impl.TbOk)
	}
}
