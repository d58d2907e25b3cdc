package merge

import (
	"bytes"
	"cmp"
	"maps"
	"math"
	"slices"
	"strings"
	"testing"

	"rickyard/agg"
	"rickyard/api"
)

// some is the next number of a row that is made by a rule.
func some(x uint32) uint32 {
	return x*1664525 + 1013904223
}

// entry is a key with what is known of some facts.
func entry(key string, facts ...int64) api.Entry {
	return api.Entry{Key: []byte(key), Agg: agg.Many(facts)}
}

// rowOf is a row of keys, one for each word, with one fact each, which hangs on the row.
func rowOf(fact int64, keys string) []api.Entry {
	var l []api.Entry
	for i, k := range strings.Fields(keys) {
		l = append(l, entry(k, fact+int64(i)))
	}
	return l
}

func sameEntry(a, b api.Entry) bool {
	return bytes.Equal(a.Key, b.Key) && a.Agg == b.Agg
}

func sameRow(a, b []api.Entry) bool {
	return slices.EqualFunc(a, b, sameEntry)
}

// told is an entry that was told, and the place of its row.
type told struct {
	entry api.Entry
	row   int
}

func sameTold(a, b []told) bool {
	return slices.EqualFunc(a, b, func(x, y told) bool { return x.row == y.row && sameEntry(x.entry, y.entry) })
}

// plainTold is what a heap tells, by sorting: rows are gone through from the first on, and those of one key stay so.
func plainTold(rows [][]api.Entry) []told {
	var l []told
	for i, row := range rows {
		for _, x := range row {
			l = append(l, told{x, i})
		}
	}
	slices.SortStableFunc(l, func(a, b told) int { return strings.Compare(string(a.entry.Key), string(b.entry.Key)) })
	return l
}

// plainAll is all rows together, by a map.
func plainAll(rows [][]api.Entry) []api.Entry {
	known := map[string]api.Agg{}
	for _, row := range rows {
		for _, x := range row {
			known[string(x.Key)] = agg.Merge(known[string(x.Key)], x.Agg)
		}
	}
	var l []api.Entry
	for _, k := range slices.Sorted(maps.Keys(known)) {
		l = append(l, api.Entry{Key: []byte(k), Agg: known[k]})
	}
	return l
}

// heapOf is a heap of rows that are some.
func heapOf(t *testing.T, rows [][]api.Entry) *Heap {
	t.Helper()
	h, e := New(rows)
	if e != api.OK || h == nil {
		t.Fatalf("New(%v) = %v, %v", rows, h, e)
	}
	return h
}

// over tells that a heap has nothing.
func over(t *testing.T, name string, h *Heap) {
	t.Helper()
	for range 3 {
		if x, row, ok := h.Next(); ok || row != 0 || x.Key != nil || x.Agg != (api.Agg{}) {
			t.Errorf("%s: Next = %v, %d, %v", name, x, row, ok)
		}
	}
}

// drained is what a heap tells, till it has nothing.
func drained(t *testing.T, h *Heap) []told {
	t.Helper()
	var l []told
	for {
		x, row, ok := h.Next()
		if !ok {
			over(t, "drained", h)
			return l
		}
		l = append(l, told{x, row})
	}
}

// holds tells that rows are told as they are to be, one by one and together.
func holds(t *testing.T, name string, rows [][]api.Entry) {
	t.Helper()
	if got, want := drained(t, heapOf(t, rows)), plainTold(rows); !sameTold(got, want) {
		t.Errorf("%s: Next of %v: %v, not %v", name, rows, got, want)
	}
	if got, e := All(rows); e != api.OK || !sameRow(got, plainAll(rows)) {
		t.Errorf("%s: All(%v) = %v, %v, not %v", name, rows, got, e, plainAll(rows))
	}
}

// refused tells that rows are refused.
func refused(t *testing.T, name string, rows [][]api.Entry, want api.Errno) {
	t.Helper()
	if h, e := New(rows); h != nil || e != want {
		t.Errorf("%s: New = %v, %v, not %v", name, h, e, want)
	}
	if l, e := All(rows); len(l) != 0 || e != want {
		t.Errorf("%s: All = %v, %v, not %v", name, l, e, want)
	}
}

// madeRow is a row with keys of up to two letters, made by a rule.
func madeRow(x uint32, most int) ([]api.Entry, uint32) {
	l := map[string]api.Entry{}
	x = some(x)
	for range int(x>>16) % (most + 1) {
		x = some(x)
		k := strings.Repeat(string(rune('a'+x>>20%4)), int(x>>10%2)) + strings.Repeat(string(rune('a'+x>>24%4)), int(x>>12%3))
		l[k] = entry(k, int64(int32(x)), int64(x>>8%5))
	}
	row := slices.Collect(maps.Values(l))
	slices.SortFunc(row, func(a, b api.Entry) int { return bytes.Compare(a.Key, b.Key) })
	return row, x
}

// madeRows is rows that are made by a rule.
func madeRows(x uint32, most int) ([][]api.Entry, uint32) {
	x = some(x)
	rows := make([][]api.Entry, int(x>>16)%(most+1))
	for i := range rows {
		rows[i], x = madeRow(x, 6)
	}
	return rows, x
}

func TestP14_1Rows(t *testing.T) {
	long := strings.Repeat("k", 300)
	for name, rows := range map[string][][]api.Entry{
		"no rows":              nil,
		"no rows, empty":       {},
		"an empty row":         {nil},
		"empty rows":           {nil, {}, nil},
		"one entry":            {{entry("a", 1)}},
		"a row":                {rowOf(1, "a b c")},
		"the example":          {rowOf(1, "a c"), rowOf(5, "b c")},
		"a key in all":         {rowOf(1, "k"), rowOf(2, "k"), rowOf(3, "k"), rowOf(4, "k"), rowOf(5, "k"), rowOf(6, "k"), rowOf(7, "k")},
		"empty ones between":   {nil, rowOf(1, "b"), {}, rowOf(2, "a b"), nil, rowOf(3, "b c"), nil},
		"the last ones first":  {rowOf(1, "e f"), rowOf(2, "c d"), rowOf(3, "a b")},
		"a row within another": {rowOf(1, "a z"), rowOf(2, "b c d")},
		"keys that are fronts": {rowOf(1, "a aa aaa"), rowOf(2, "a aab b")},
		"an empty key":         {{entry("", 1), entry("\x00", 2)}, {entry("", 3), entry("a", 4)}},
		"bytes, not letters":   {{entry("\x00", 1), entry("\x7f", 2), entry("\x80", 3), entry("\xff", 4), entry("\xff\x00", 5)}, {entry("\x80", 3), entry("\xfe", 4)}},
		"long keys":            {{entry(long, 1), entry(long+"a", 1)}, {entry(long, 2), entry(long+"b", 2)}},
		"nothing known":        {{entry("a"), entry("b", 1)}, {entry("a"), entry("b"), entry("c")}},
	} {
		holds(t, name, rows)
	}
}

func TestP14_1Example(t *testing.T) {
	h := heapOf(t, [][]api.Entry{rowOf(1, "a c"), rowOf(5, "b c")})
	for _, want := range []told{{entry("a", 1), 0}, {entry("b", 5), 1}, {entry("c", 2), 0}, {entry("c", 6), 1}} {
		if x, row, ok := h.Next(); !ok || row != want.row || !sameEntry(x, want.entry) {
			t.Errorf("Next = %v, %d, %v, not %v", x, row, ok, want)
		}
	}
	over(t, "the example", h)
}

// wrongKnown is what is not right.
func wrongKnown() []api.Agg {
	return []api.Agg{
		{Min: 1}, {Max: 1}, {Sum: api.Wide{Lo: 1}}, {Sum: api.Wide{Hi: -1}}, {Over: true}, {Count: 1, Min: 1}, {Count: 1, Max: -1},
		{Count: 5, Over: true}, {Count: math.MaxUint64 - 1, Over: true}, {Count: math.MaxUint64, Over: true, Min: 2, Max: 1},
	}
}

func TestP14_1NoRow(t *testing.T) {
	good := rowOf(1, "a b")
	for _, keys := range []string{"b a", "a a", "a b b", "a c b", "aa a", "a b a", "b a c", "a b c c"} {
		bad := rowOf(1, keys)
		refused(t, keys, [][]api.Entry{bad}, api.ErrOrder)
		refused(t, keys+", first", [][]api.Entry{bad, good}, api.ErrOrder)
		refused(t, keys+", last", [][]api.Entry{good, nil, bad}, api.ErrOrder)
	}
	refused(t, "two empty keys", [][]api.Entry{{entry("", 1), entry("", 1)}}, api.ErrOrder)
	refused(t, "an empty key behind", [][]api.Entry{{entry("a", 1), entry("", 1)}}, api.ErrOrder)
	refused(t, "bytes fall", [][]api.Entry{{entry("\x80", 1), entry("\x7f", 1)}}, api.ErrOrder)
	for _, known := range wrongKnown() {
		for at := range 3 {
			bad := rowOf(1, "a b c")
			bad[at].Agg = known
			refused(t, "known", [][]api.Entry{bad}, api.ErrForm)
			refused(t, "known, first", [][]api.Entry{bad, good}, api.ErrForm)
			refused(t, "known, last", [][]api.Entry{nil, good, bad}, api.ErrForm)
		}
	}
}

// Of the first row that is none: its order is asked for first, wherever in it the faults are.
func TestP14_1WhichError(t *testing.T) {
	falls := rowOf(1, "b a")
	wrong := rowOf(1, "a b")
	wrong[1].Agg = wrongKnown()[0]
	refused(t, "falls, then wrong", [][]api.Entry{falls, wrong}, api.ErrOrder)
	refused(t, "wrong, then falls", [][]api.Entry{wrong, falls}, api.ErrForm)
	refused(t, "good, wrong, falls", [][]api.Entry{rowOf(1, "a"), wrong, falls}, api.ErrForm)
	for at := range 3 {
		for _, keys := range []string{"b a c", "a c b", "a a b", "a b b"} {
			both := rowOf(1, keys)
			both[at].Agg = wrongKnown()[1]
			refused(t, "both in one row", [][]api.Entry{both, wrong}, api.ErrOrder)
		}
	}
}

func TestP14_1NoHeap(t *testing.T) {
	var none *Heap
	over(t, "nil", none)
	over(t, "made by no call", &Heap{})
	over(t, "of no rows", heapOf(t, nil))
}

func TestP14_1MadeByRule(t *testing.T) {
	x := uint32(7)
	for range 20000 {
		var rows [][]api.Entry
		rows, x = madeRows(x, 9)
		holds(t, "made", rows)
	}
}

// Each number of rows has a heap of another form.
func TestP14_1ManyRows(t *testing.T) {
	for n := range 70 {
		rows := make([][]api.Entry, n)
		for i := range rows {
			row := rowOf(int64(i), "k m")
			row[0].Key = []byte{byte(i * 37 % 101), 1}
			row[1].Key = []byte{byte(i*37%101 + i%3), 2}
			rows[i] = row
		}
		holds(t, "many", rows)
		slices.Reverse(rows)
		holds(t, "many, reversed", rows)
	}
}

func TestP14_2Example(t *testing.T) {
	l, e := All([][]api.Entry{rowOf(1, "a c"), rowOf(5, "b c")})
	if want := []api.Entry{entry("a", 1), entry("b", 5), entry("c", 2, 6)}; e != api.OK || !sameRow(l, want) {
		t.Errorf("All = %v, %v", l, e)
	}
}

// What is known is merged as chapter 2 says, the most that can be told too.
func TestP14_2Merged(t *testing.T) {
	most := api.Agg{Count: math.MaxUint64, Sum: api.Wide{Hi: math.MaxInt64, Lo: math.MaxUint64}, Min: -5, Max: 5}
	beyond := api.Agg{Count: math.MaxUint64, Over: true, Min: 3, Max: 9}
	with := func(a api.Agg) []api.Entry { return []api.Entry{{Key: []byte("k"), Agg: a}} }
	for _, rows := range [][][]api.Entry{
		{with(most)}, {with(beyond)}, {with(most), with(agg.One(1))}, {with(beyond), with(agg.One(1))}, {with(most), with(beyond)},
		{with(most), with(most), with(most)}, {with(api.Agg{}), with(most)}, {with(most), with(api.Agg{})}, {with(api.Agg{}), with(api.Agg{})},
		{with(agg.One(math.MinInt64)), with(agg.One(math.MaxInt64)), with(agg.One(math.MinInt64))},
	} {
		holds(t, "one key", rows)
	}
}

func TestP14_3KeysNeverFall(t *testing.T) {
	x := uint32(11)
	for range 5000 {
		var rows [][]api.Entry
		rows, x = madeRows(x, 12)
		count := 0
		for _, row := range rows {
			count += len(row)
		}
		l := drained(t, heapOf(t, rows))
		if len(l) != count {
			t.Fatalf("%d entries of %d", len(l), count)
		}
		if !slices.IsSortedFunc(l, func(a, b told) int {
			return cmp.Or(bytes.Compare(a.entry.Key, b.entry.Key), cmp.Compare(a.row, b.row))
		}) {
			t.Fatalf("keys fall, or rows do within a key: %v", l)
		}
		at := make([]int, len(rows))
		for _, y := range l {
			if !sameEntry(y.entry, rows[y.row][at[y.row]]) {
				t.Fatalf("%v is not the next entry of its row", y)
			}
			at[y.row]++
		}
	}
}

func TestP14_4OrderAndParts(t *testing.T) {
	x := uint32(13)
	for range 4000 {
		var rows [][]api.Entry
		rows, x = madeRows(x, 7)
		want, e := All(rows)
		if e != api.OK {
			t.Fatalf("All: %v", e)
		}
		same := func(name string, rows [][]api.Entry) {
			t.Helper()
			if got, e := All(rows); e != api.OK || !sameRow(got, want) {
				t.Fatalf("%s: %v, %v, not %v", name, got, e, want)
			}
		}
		turned := slices.Clone(rows)
		slices.Reverse(turned)
		same("reversed", turned)
		for i := range rows {
			same("moved round", slices.Concat(rows[i:], rows[:i]))
		}
		for i := range len(rows) + 1 {
			front, _ := All(rows[:i])
			back, _ := All(rows[i:])
			same("the first ones ahead", append([][]api.Entry{front}, rows[i:]...))
			same("two parts", [][]api.Entry{back, front})
		}
	}
}

func TestP14_5OneRow(t *testing.T) {
	x := uint32(17)
	for range 3000 {
		var row []api.Entry
		row, x = madeRow(x, 12)
		for _, rows := range [][][]api.Entry{{row}, {nil, row}, {row, nil, {}}} {
			if got, e := All(rows); e != api.OK || !sameRow(got, row) {
				t.Fatalf("All(%v) = %v, %v", rows, got, e)
			}
		}
	}
	row := []api.Entry{entry(""), entry("a"), entry("b", 1, 2)}
	if got, e := All([][]api.Entry{row}); e != api.OK || !sameRow(got, row) {
		t.Errorf("nothing known: %v, %v", got, e)
	}
}

// A list, and what is put together of more entries than a list has.
func TestP14_5LongRow(t *testing.T) {
	var odd, even []api.Entry
	for i := range 20000 {
		x := api.Entry{Key: []byte{byte(i >> 16), byte(i >> 8), byte(i)}, Agg: agg.One(int64(i))}
		if i%2 == 0 {
			even = append(even, x)
		} else {
			odd = append(odd, x)
		}
	}
	holds(t, "long", [][]api.Entry{odd, even, odd[5000:]})
}

// shared is rows, of which one has room behind its length, and whose keys have.
func shared() ([][]api.Entry, []api.Entry, []byte) {
	keys := []byte("abcd")
	room := []api.Entry{{Key: keys[0:1], Agg: agg.One(1)}, {Key: keys[1:2], Agg: agg.One(2)}, entry("a", 3)}
	return [][]api.Entry{room[:2], {{Key: keys[1:3], Agg: agg.One(4)}}}, room, keys
}

func TestP1NotKeptNotChanged(t *testing.T) {
	want := []told{{entry("a", 1), 0}, {entry("b", 2), 0}, {entry("bc", 4), 1}}
	rows, room, keys := shared()
	h := heapOf(t, rows)
	holds(t, "as it was", rows)
	if string(keys) != "abcd" || !sameEntry(room[2], entry("a", 3)) || !sameTold(plainTold(rows), want) {
		t.Errorf("what was handed in has changed: %v, %q", room, keys)
	}
	copy(keys, "zzzz")
	room[0].Agg, rows[1] = agg.One(9), nil
	if got := drained(t, h); !sameTold(got, want) {
		t.Errorf("what was handed in was kept: %v", got)
	}
}

func TestP1NewMemory(t *testing.T) {
	rows := [][]api.Entry{rowOf(1, "a b"), rowOf(3, "b c")}
	h := heapOf(t, rows)
	for _, want := range plainTold(rows) {
		x, row, ok := h.Next()
		if !ok || !sameTold([]told{{x, row}}, []told{want}) {
			t.Fatalf("Next = %v, %d, %v, not %v", x, row, ok, want)
		}
		x.Key[0] = 'z'
		_ = append(x.Key, "zzzz"...)
	}
	all, _ := All(rows)
	for i := range all {
		_ = append(all[i].Key, 'z')
		all[i].Key[0] = 'z'
	}
	_ = append(all[:1], all[2])
	holds(t, "behind writing into answers", rows)
	two := heapOf(t, rows)
	one := heapOf(t, rows)
	drained(t, one)
	if got := drained(t, two); !sameTold(got, plainTold(rows)) {
		t.Errorf("two heaps share: %v", got)
	}
}

// What was told is forgotten: a heap keeps no more than what it has.
func TestP1Forgets(t *testing.T) {
	h := heapOf(t, [][]api.Entry{rowOf(1, "a b c d"), rowOf(5, "b e")})
	first := h.parts[0].left
	for range 3 {
		h.Next()
	}
	if first[0].Key != nil {
		t.Errorf("a key is kept: %q", first[0].Key)
	}
	drained(t, h)
	if all := h.parts[:cap(h.parts)]; slices.ContainsFunc(all, func(p part) bool { return p.left != nil }) {
		t.Errorf("parts are kept: %v", all)
	}
}

// fuzzed is rows that bytes stand for: 0 ends a row, each other byte is a key of its upper digits, and what is known of its lower ones.
func fuzzed(b []byte) [][]api.Entry {
	rows := [][]api.Entry{nil}
	for _, x := range b {
		last := len(rows) - 1
		if x == 0 {
			rows = append(rows, nil)
			continue
		}
		known := agg.One(int64(x % 8))
		if x%8 == 7 {
			known.Min = 100
		}
		rows[last] = append(rows[last], api.Entry{Key: []byte{x >> 4}, Agg: known})
	}
	return rows
}

func FuzzAll(f *testing.F) {
	f.Add([]byte{16, 32, 48, 0, 33, 49, 0, 0, 17})
	f.Add([]byte{32, 16, 0, 23})
	f.Add([]byte{16, 23, 0, 32, 16})
	f.Fuzz(func(t *testing.T, b []byte) {
		rows := fuzzed(b)
		want := api.OK
		for _, row := range rows {
			rises := true
			for i := 1; i < len(row); i++ {
				rises = rises && string(row[i-1].Key) < string(row[i].Key)
			}
			right := !slices.ContainsFunc(row, func(x api.Entry) bool { return !agg.Right(x.Agg) })
			if want == api.OK && !rises {
				want = api.ErrOrder
			}
			if want == api.OK && !right {
				want = api.ErrForm
			}
		}
		if want != api.OK {
			refused(t, "fuzzed", rows, want)
			return
		}
		holds(t, "fuzzed", rows)
	})
}
