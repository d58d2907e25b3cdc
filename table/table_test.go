package table

import (
	"bytes"
	"encoding/binary"
	"hash/crc32"
	"math"
	"slices"
	"sort"
	"strconv"
	"strings"
	"testing"

	"rickyard/agg"
	"rickyard/api"
	"rickyard/skip"
)

// one is an entry of one fact.
func one(key string, v int64) api.Entry {
	return api.Entry{Key: []byte(key), Agg: agg.One(v)}
}

// numbered is n entries, in order, whose keys have some bytes in common.
func numbered(n int) []api.Entry {
	var l []api.Entry
	for i := range n {
		l = append(l, one("key "+strconv.Itoa(10000+3*i), int64(i*i)-50))
	}
	return l
}

// rightOnes is what may be known of an entry, at the edges.
func rightOnes() []api.Agg {
	return []api.Agg{
		agg.One(0), agg.One(-1), agg.One(math.MinInt64), agg.One(math.MaxInt64), agg.Many([]int64{3, -5, 4}),
		{Count: 1, Min: 3, Max: 3},
		{Count: math.MaxUint64, Min: -1, Max: 1},
		{Count: math.MaxUint64, Over: true, Sum: api.Wide{Hi: math.MinInt64, Lo: math.MaxUint64}, Min: math.MinInt64, Max: math.MaxInt64},
	}
}

// wrongOnes is what may not be known of an entry.
func wrongOnes() []api.Agg {
	return []api.Agg{
		{}, {Over: true}, {Sum: api.Wide{Lo: 1}}, {Sum: api.Wide{Hi: 1}}, {Min: 1, Max: 1}, {Min: -1}, {Max: 1},
		{Count: 1, Min: 2, Max: 1}, {Count: 1, Over: true}, {Count: math.MaxUint64 - 1, Over: true},
		{Count: math.MaxUint64, Over: true, Min: 1},
	}
}

// odd is entries whose keys are fronts of each other, short, long, of bytes at the edges, and of whom all edges are known.
func odd() []api.Entry {
	long := strings.Repeat("x", 256)
	keys := []string{"\x00", "\x00\x00", "\x01", "a", "a\x00", "a\xff", "aa", "ab", "b", "\x7f", "\x80", "\xff", "\xff\xff", long, long[:255], long[:255] + "y", long[:128], long[:127]}
	sort.Strings(keys)
	var l []api.Entry
	for i, k := range keys {
		l = append(l, api.Entry{Key: []byte(k), Agg: rightOnes()[i%len(rightOnes())]})
	}
	return l
}

// lists is entries that may be a table's: of none, at the edges of a row, odd ones, as many as may be.
func lists() map[string][]api.Entry {
	all := map[string][]api.Entry{"odd": odd(), "no bytes but one": {one("\x00", 1)}}
	for _, n := range []int{0, 1, 2, 15, 16, 17, 31, 32, 33, 100, 256, 1000, 4095, 4096} {
		all[strconv.Itoa(n)+" entries"] = numbered(n)
	}
	return all
}

// plainFrame is a frame of data.
func plainFrame(data []byte) []byte {
	out := binary.LittleEndian.AppendUint32(nil, uint32(len(data)))
	out = append(out, data...)
	return binary.LittleEndian.AppendUint32(out, crc32.Checksum(out, crc32.MakeTable(crc32.Castagnoli)))
}

// plainRow is the bytes of a row of keys and values.
func plainRow(keys, values [][]byte) []byte {
	var out []byte
	for i, k := range keys {
		same := 0
		for i%8 != 0 && same < len(k) && bytes.HasPrefix(keys[i-1], k[:same+1]) {
			same++
		}
		for _, n := range []int{same, len(k) - same, len(values[i])} {
			out = binary.AppendUvarint(out, uint64(n))
		}
		out = append(append(out, k[same:]...), values[i]...)
	}
	return out
}

// plainKnown is the 41 bytes of what is known.
func plainKnown(a api.Agg) []byte {
	out := []byte{0}
	if a.Over {
		out[0] = 1
	}
	for _, n := range []uint64{a.Count, uint64(a.Sum.Hi), a.Sum.Lo, uint64(a.Min), uint64(a.Max)} {
		out = binary.BigEndian.AppendUint64(out, n)
	}
	return out
}

// plainPlaces is a key's places in a filter of six hashes.
func plainPlaces(key []byte, digits int) []int {
	table := crc32.MakeTable(crc32.Castagnoli)
	a := crc32.Checksum(key, table)
	b := crc32.Checksum(append(slices.Clone(key), 1), table) | 1
	var l []int
	for i := range uint32(6) {
		l = append(l, int(uint64(a+i*b)%uint64(digits)))
	}
	return l
}

// plainDigits is how many digits the filter of so many keys has.
func plainDigits(keys int) int {
	digits := max(10*keys, 8)
	for digits%8 != 0 {
		digits++
	}
	return digits
}

// plainFilter is the bytes of the filter of all keys.
func plainFilter(l []api.Entry) []byte {
	digits := plainDigits(len(l))
	out := make([]byte, 1+digits/8)
	out[0] = 6
	for _, x := range l {
		for _, at := range plainPlaces(x.Key, digits) {
			out[1+at/8] |= 1 << (at % 8)
		}
	}
	return out
}

// parts is the data of a table's frames, apart, so that each can be made wrong by itself.
type parts struct {
	rows                 [][]byte
	keys, places         [][]byte // of the index
	filter, foot, behind []byte
}

// plainParts is the parts of a table with rows of so many entries.
func plainParts(l []api.Entry, perRow int) parts {
	var p parts
	ahead := uint64(0)
	for i := 0; i < len(l); i += perRow {
		some := l[i:min(i+perRow, len(l))]
		var keys, values [][]byte
		for _, x := range some {
			keys, values = append(keys, x.Key), append(values, plainKnown(x.Agg))
		}
		row := plainRow(keys, values)
		p.rows, p.keys = append(p.rows, row), append(p.keys, some[len(some)-1].Key)
		p.places = append(p.places, binary.BigEndian.AppendUint64(nil, ahead))
		ahead += uint64(len(row)) + 8
	}
	p.filter = plainFilter(l)
	p.foot = binary.BigEndian.AppendUint64(binary.BigEndian.AppendUint64(nil, uint64(len(l))), ahead)
	return p
}

// joined is the parts as frames, one behind the other.
func (p parts) joined() []byte {
	var out []byte
	for _, row := range p.rows {
		out = append(out, plainFrame(row)...)
	}
	for _, data := range [][]byte{plainRow(p.keys, p.places), p.filter, p.foot} {
		out = append(out, plainFrame(data)...)
	}
	return append(out, p.behind...)
}

// plainWrite is the bytes of a table.
func plainWrite(l []api.Entry) []byte {
	return plainParts(l, 16).joined()
}

// from is the first most of the entries whose keys are not less than key, all of them gone through.
func from(l []api.Entry, key string, most int) []api.Entry {
	var found []api.Entry
	for _, x := range l {
		if string(x.Key) >= key && len(found) < most {
			found = append(found, x)
		}
	}
	return found
}

// same tells whether two rows of entries are the same.
func same(a, b []api.Entry) bool {
	return slices.EqualFunc(a, b, func(x, y api.Entry) bool {
		return bytes.Equal(x.Key, y.Key) && x.Agg == y.Agg
	})
}

// opened is the table of entries that may be one's.
func opened(t *testing.T, l []api.Entry) *Table {
	t.Helper()
	b, e := Write(l)
	if e != api.OK {
		t.Fatalf("Write: %v", e)
	}
	x, e := Open(b)
	if e != api.OK || x == nil {
		t.Fatalf("Open: %v", e)
	}
	return x
}

// none holds Open to bytes that are none of a table.
func none(t *testing.T, name string, b []byte) {
	t.Helper()
	if x, e := Open(b); e != api.ErrTable || x != nil {
		t.Errorf("%s: Open = %v, %v", name, x, e)
	}
}

// near is keys: those of entries, and others that stand close by them.
func near(l []api.Entry) []string {
	keys := []string{"", "\x00", "k", "key", "key 1", "key 2", "z", "\xff\xff\xff", strings.Repeat("x", 257), strings.Repeat("\xff", 300)}
	for i := 0; i < len(l); i += 1 + len(l)/16 {
		for _, x := range l[max(i-1, 0) : i+1] {
			k := string(x.Key)
			keys = append(keys, k, k+"\x00", k[:len(k)-1], k+"x")
		}
	}
	return keys
}

// holds holds all that a table tells against its entries.
func holds(t *testing.T, name string, x *Table, l []api.Entry) {
	t.Helper()
	if got := x.All(); !same(got, l) || x.Len() != len(l) {
		t.Errorf("%s: All has %d, Len = %d", name, len(got), x.Len())
	}
	first, last, ok := x.Ends()
	if len(l) == 0 && (ok || first != nil || last != nil) {
		t.Errorf("%s: Ends = %q, %q, %v", name, first, last, ok)
	}
	if len(l) > 0 && (!ok || !bytes.Equal(first, l[0].Key) || !bytes.Equal(last, l[len(l)-1].Key)) {
		t.Errorf("%s: Ends = %q, %q, %v", name, first, last, ok)
	}
	for _, k := range near(l) {
		var want api.Agg
		there := slices.IndexFunc(l, func(x api.Entry) bool { return string(x.Key) == k })
		if there >= 0 {
			want = l[there].Agg
		}
		if got, ok := x.Get([]byte(k)); got != want || ok != (there >= 0) {
			t.Errorf("%s: Get(%q) = %v, %v", name, k, got, ok)
		}
		for _, most := range []int{math.MinInt, -1, 0, 1, 2, 16, 17, math.MaxInt} {
			if got := x.Seek([]byte(k), most); !same(got, from(l, k, most)) {
				t.Errorf("%s: Seek(%q, %d) = %v", name, k, most, got)
			}
		}
	}
}

func TestP10_1Write(t *testing.T) {
	for name, l := range lists() {
		if b, e := Write(l); e != api.OK || !bytes.Equal(b, plainWrite(l)) {
			t.Errorf("%s: Write: %d bytes, %v", name, len(b), e)
		}
	}
}

func TestP10_1Example(t *testing.T) {
	b, e := Write(nil)
	if e != api.OK || len(b) != 8+10+24 {
		t.Fatalf("Write(nil) = %v, %v", b, e)
	}
	if !bytes.Equal(b[:8], plainFrame(nil)) || !bytes.Equal(b[8:18], plainFrame([]byte{6, 0})) || !bytes.Equal(b[18:], plainFrame(make([]byte, 16))) {
		t.Errorf("Write(nil) = %v", b)
	}
	if again, e := Write([]api.Entry{}); e != api.OK || !bytes.Equal(again, b) {
		t.Errorf("Write of an empty list = %v, %v", again, e)
	}
}

// wrong holds Write to an error.
func wrong(t *testing.T, name string, l []api.Entry, want api.Errno) {
	t.Helper()
	if b, e := Write(l); e != want || len(b) != 0 {
		t.Errorf("%s: Write: %d bytes, %v, want %v", name, len(b), e, want)
	}
}

func TestP10_1Long(t *testing.T) {
	for _, n := range []int{4097, 4098, 5000} {
		wrong(t, strconv.Itoa(n), numbered(n), api.ErrLong)
		wrong(t, strconv.Itoa(n)+" of nothing", make([]api.Entry, n), api.ErrLong)
	}
}

func TestP10_1Key(t *testing.T) {
	for _, n := range []int{0, 257, 258, 300, 512, 4097, 70000} {
		wrong(t, "first", []api.Entry{one(strings.Repeat("x", n), 1)}, api.ErrKey)
		wrong(t, "behind others", append(numbered(17), one(strings.Repeat("x", n), 1)), api.ErrKey)
	}
	wrong(t, "nil", []api.Entry{{Agg: agg.One(1)}}, api.ErrKey)
	for n := 1; n <= 256; n++ {
		if _, e := Write([]api.Entry{one(strings.Repeat("x", n), 1)}); e != api.OK {
			t.Errorf("a key of %d: %v", n, e)
		}
	}
}

func TestP10_1Known(t *testing.T) {
	for _, a := range wrongOnes() {
		x := api.Entry{Key: []byte("z"), Agg: a}
		wrong(t, "first", []api.Entry{x}, api.ErrForm)
		wrong(t, "behind others", append(numbered(20), x), api.ErrForm)
	}
	for _, a := range rightOnes() {
		l := []api.Entry{{Key: []byte("z"), Agg: a}}
		holds(t, "right", opened(t, l), l)
	}
}

func TestP10_1Order(t *testing.T) {
	for _, keys := range [][]string{{"b", "a"}, {"a", "a"}, {"ab", "a"}, {"\x80", "\x7f"}, {"a", "c", "b"}, {"a", "b", "b"}, {"\x00", "\x00"}} {
		var l []api.Entry
		for _, k := range keys {
			l = append(l, one(k, 1))
		}
		wrong(t, strings.Join(keys, " "), l, api.ErrOrder)
	}
	for n := 1; n < 40; n++ {
		wrong(t, "the last again", append(numbered(n), numbered(n)[n-1]), api.ErrOrder)
		wrong(t, "the first again", append(numbered(n), numbered(1)...), api.ErrOrder)
	}
}

// TestP10_1FirstFault: of the first entry that has faults the first one in the document's order is told, whatever is wrong behind it.
func TestP10_1FirstFault(t *testing.T) {
	made := func(faults int) (api.Entry, api.Errno) {
		x, want := one("z", 1), api.OK
		if faults&4 != 0 {
			x.Key, want = []byte("a"), api.ErrOrder
		}
		if faults&2 != 0 {
			x.Agg, want = api.Agg{Count: 1, Over: true}, api.ErrForm
		}
		if faults&1 != 0 {
			x.Key, want = nil, api.ErrKey
		}
		if faults == 5 || faults == 7 {
			x.Key = bytes.Repeat([]byte("a"), 257)
		}
		return x, want
	}
	for first := 1; first < 8; first++ {
		for second := range 8 {
			x, want := made(first)
			y, _ := made(second)
			wrong(t, strconv.Itoa(first)+" "+strconv.Itoa(second), append(numbered(20), x, y), want)
			wrong(t, "too many", append(append([]api.Entry{x, y}, numbered(4095)...), x), api.ErrLong)
		}
	}
}

// spread is 4096 entries, of whose rows no two last keys have a byte in common; these keys have so many bytes together.
func spread(together int) []api.Entry {
	var l []api.Entry
	for row := range 256 {
		for i := range 15 {
			l = append(l, one(string([]byte{byte(row), byte(i)}), 1))
		}
		n := together / (256 - row)
		together -= n
		l = append(l, one(string([]byte{byte(row)})+strings.Repeat("x", n-1), 1))
	}
	return l
}

// TestP10_1LongIndex: what can't be framed can't be written.
func TestP10_1LongIndex(t *testing.T) {
	most := api.MaxFrame - 256*12 // each key of the index has twelve bytes beside it
	l := spread(most)
	if b, e := Write(l); e != api.OK || !bytes.Equal(b, plainWrite(l)) {
		t.Errorf("Write: %d bytes, %v", len(b), e)
	}
	holds(t, "spread", opened(t, l), l)
	wrong(t, "one byte more", spread(most+1), api.ErrLong)
	wrong(t, "as long as may be", spread(256*256), api.ErrLong)
}

func TestP10_2Open(t *testing.T) {
	for name, l := range lists() {
		x, e := Open(plainWrite(l))
		if e != api.OK || x == nil {
			t.Errorf("%s: Open: %v", name, e)
			continue
		}
		holds(t, name, x, l)
	}
}

func TestP10_2Nil(t *testing.T) {
	for name, x := range map[string]*Table{"nil": nil, "hand-made": {}, "new": new(Table)} {
		holds(t, name, x, nil)
		for _, k := range near(numbered(3)) {
			if x.May([]byte(k)) {
				t.Errorf("%s: May(%q)", name, k)
			}
		}
	}
}

// known is an entry's row with other bytes as what is known.
func known(key string, b []byte) []byte {
	return plainRow([][]byte{[]byte(key)}, [][]byte{b})
}

// TestP10_2Wrong: files whose frames are whole, but that are no table's, each for another reason.
func TestP10_2Wrong(t *testing.T) {
	for name, change := range map[string]func(p *parts){
		"no row":                     func(p *parts) { p.rows = nil },
		"a row less":                 func(p *parts) { p.rows = p.rows[1:] },
		"the last row less":          func(p *parts) { p.rows = p.rows[:2] },
		"rows in another order":      func(p *parts) { p.rows[0], p.rows[1] = p.rows[1], p.rows[0] },
		"a row twice":                func(p *parts) { p.rows[1] = p.rows[0] },
		"an empty row":               func(p *parts) { p.rows = append(p.rows, nil) },
		"an empty row ahead":         func(p *parts) { p.rows = append([][]byte{nil}, p.rows...) },
		"no row's bytes":             func(p *parts) { p.rows[1] = []byte{0, 1} },
		"junk behind a row":          func(p *parts) { p.rows[2] = append(p.rows[2], 0) },
		"an index' key less":         func(p *parts) { p.keys, p.places = p.keys[:2], p.places[:2] },
		"an index' key more":         func(p *parts) { p.keys, p.places = append(p.keys, []byte("z")), append(p.places, p.places[2]) },
		"another key in the index":   func(p *parts) { p.keys[1] = append(slices.Clone(p.keys[1]), 0) },
		"no last key in the index":   func(p *parts) { p.keys[2] = append(slices.Clone(p.keys[2]), 'x') },
		"a first key in the index":   func(p *parts) { p.keys[0] = []byte("key 10000") },
		"another place in the index": func(p *parts) { p.places[1][7]++ },
		"a place of seven bytes":     func(p *parts) { p.places[1] = p.places[1][1:] },
		"a place of nine bytes":      func(p *parts) { p.places[1] = append([]byte{0}, p.places[1]...) },
		"no index":                   func(p *parts) { p.keys, p.places = nil, nil },
		"a digit more":               func(p *parts) { p.filter[slices.Index(p.filter[1:], 0)+1] = 1 },
		"all digits":                 func(p *parts) { p.filter[1] = 255 },
		"a digit less":               func(p *parts) { p.filter[1] = 0 },
		"other hashes":               func(p *parts) { p.filter[0] = 5 },
		"no hashes":                  func(p *parts) { p.filter[0] = 0 },
		"a longer filter":            func(p *parts) { p.filter = append(p.filter, 0) },
		"a shorter filter":           func(p *parts) { p.filter = p.filter[:len(p.filter)-1] },
		"no filter":                  func(p *parts) { p.filter = nil },
		"fewer entries in the foot":  func(p *parts) { p.foot[7]-- },
		"more entries in the foot":   func(p *parts) { p.foot[7]++ },
		"very many in the foot":      func(p *parts) { p.foot[0] = 255 },
		"another index in the foot":  func(p *parts) { p.foot[15]++ },
		"a far index in the foot":    func(p *parts) { p.foot[8] = 128 },
		"a shorter foot":             func(p *parts) { p.foot = p.foot[:15] },
		"a longer foot":              func(p *parts) { p.foot = append(p.foot, 0) },
		"no foot":                    func(p *parts) { p.foot = nil },
		"another frame behind":       func(p *parts) { p.behind = plainFrame(nil) },
		"the foot again":             func(p *parts) { p.behind = plainFrame(p.foot) },
		"a byte behind":              func(p *parts) { p.behind = []byte{0} },
		"many bytes behind":          func(p *parts) { p.behind = make([]byte, 100000) },
		"another table behind":       func(p *parts) { p.behind = plainWrite(nil) },
		"the same again":             func(p *parts) { p.behind = p.joined() },
	} {
		p := plainParts(numbered(40), 16)
		p.filter = slices.Clone(p.filter)
		change(&p)
		none(t, name, p.joined())
	}
	if _, e := Open(plainParts(numbered(40), 16).joined()); e != api.OK {
		t.Errorf("unchanged: %v", e)
	}
}

// TestP10_2WrongEntries: files that are right in all but their entries.
func TestP10_2WrongEntries(t *testing.T) {
	for name, l := range map[string][]api.Entry{
		"too many":               numbered(4097),
		"far too many":           numbered(6000),
		"no key":                 {one("", 1)},
		"no key at first":        append([]api.Entry{one("", 1)}, numbered(3)...),
		"a long key":             {one(strings.Repeat("x", 257), 1)},
		"a very long key":        {one(strings.Repeat("x", 4097), 1)},
		"falling over rows":      append(numbered(16), one("a", 1)),
		"the same key over rows": append(numbered(16), numbered(16)[15]),
		"falling in a row":       {one("b", 1), one("a", 1)},
		"the same key":           {one("a", 1), one("a", 1)},
	} {
		none(t, name, plainWrite(l))
	}
	for _, a := range wrongOnes() {
		none(t, "wrong", plainWrite([]api.Entry{{Key: []byte("a"), Agg: a}}))
		none(t, "wrong at the end", plainWrite(append(numbered(16), api.Entry{Key: []byte("z"), Agg: a})))
	}
	for _, perRow := range []int{1, 8, 15, 17, 20, 32} {
		none(t, strconv.Itoa(perRow)+" in a row", plainParts(numbered(20), perRow).joined())
	}
	right := plainKnown(agg.One(1))
	for name, b := range map[string][]byte{
		"nothing": nil, "40 bytes": right[:40], "42 bytes": append(slices.Clone(right), 0), "82 bytes": append(slices.Clone(right), right...),
		"a first byte of 2": append([]byte{2}, right[1:]...), "over": append([]byte{1}, right[1:]...), "zeros": make([]byte, 41),
	} {
		p := plainParts([]api.Entry{one("a", 1)}, 16)
		p.rows[0] = known("a", b)
		p.foot[15] += byte(len(b) - len(right))
		none(t, name, p.joined())
	}
}

// TestP10_2NoFrames: bytes that are no frames, or too few.
func TestP10_2NoFrames(t *testing.T) {
	none(t, "nil", nil)
	for _, n := range []int{0, 1, 3, 4, 8, 41, 42, 43, 1000, 100000} {
		none(t, "zeros", make([]byte, n))
		none(t, "255s", bytes.Repeat([]byte{255}, n))
		none(t, "frames of nothing", bytes.Repeat(plainFrame(nil), n))
	}
	for n := range 3 {
		none(t, "too few", bytes.Join([][]byte{plainFrame(nil), plainFrame([]byte{6, 0}), plainFrame(make([]byte, 16))}[:n], nil))
		none(t, "too few, the last ones", bytes.Join([][]byte{plainFrame(nil), plainFrame([]byte{6, 0}), plainFrame(make([]byte, 16))}[3-n:], nil))
	}
}

// TestP10_2May: what May tells is what the filter of all keys tells, of those that are not there too.
func TestP10_2May(t *testing.T) {
	for name, l := range lists() {
		if len(l) > 1000 {
			continue
		}
		x, digits := opened(t, l), plainDigits(len(l))
		filter := plainFilter(l)
		yes, no := 0, 0
		for i := range 3000 {
			k := []byte("other " + strconv.Itoa(i))
			want := true
			for _, at := range plainPlaces(k, digits) {
				want = want && filter[1+at/8]>>(at%8)&1 == 1
			}
			if got := x.May(k); got != want {
				t.Errorf("%s: May(%q) = %v", name, k, got)
			}
			if a, ok := x.Get(k); ok || a != (api.Agg{}) {
				t.Errorf("%s: Get(%q) = %v, %v", name, k, a, ok)
			}
			if want {
				yes++
			} else {
				no++
			}
		}
		if no == 0 || yes == 0 && len(l) > 1 {
			t.Errorf("%s: %d may be there, %d may not", name, yes, no)
		}
	}
}

// TestP10_3ThereAndBack: entries go there and back, and what is there goes back to its bytes.
func TestP10_3ThereAndBack(t *testing.T) {
	for name, l := range lists() {
		b, _ := Write(l)
		got := opened(t, l).All()
		again, e := Write(got)
		if e != api.OK || !same(got, l) || !bytes.Equal(again, b) {
			t.Errorf("%s: %v", name, e)
		}
	}
}

// TestP10_3OneWay: unlike entries have unlike bytes; one that is changed a little is another table.
func TestP10_3OneWay(t *testing.T) {
	seen := map[string]string{}
	all := lists()
	for i := range 20 {
		l := numbered(20)
		l[i].Agg = agg.One(7777)
		all["another "+strconv.Itoa(i)] = l
		all["without "+strconv.Itoa(i)] = slices.Delete(numbered(20), i, i+1)
		l = numbered(20)
		l[i].Key = append(l[i].Key, 0)
		all["longer "+strconv.Itoa(i)] = l
	}
	for name, l := range all {
		b, _ := Write(l)
		if other := seen[string(b)]; other != "" {
			t.Errorf("%s and %s have the same bytes", name, other)
		}
		seen[string(b)] = name
		holds(t, name, opened(t, l), l)
	}
}

func TestP10_4NeverDenied(t *testing.T) {
	for name, l := range lists() {
		x := opened(t, l)
		for _, y := range l {
			if a, ok := x.Get(y.Key); !x.May(y.Key) || !ok || a != y.Agg {
				t.Errorf("%s: %q is denied", name, y.Key)
			}
		}
	}
}

// TestP10_5Turned: one byte that is another one, anywhere, is told.
func TestP10_5Turned(t *testing.T) {
	for name, l := range map[string][]api.Entry{"nothing": nil, "one": numbered(1), "16": numbered(16), "17": numbered(17), "odd": odd(), "100": numbered(100)} {
		b, _ := Write(l)
		step := 1 + len(b)/100*4
		for i := range b {
			for x := 1; x < 256; x += step {
				turned := slices.Clone(b)
				turned[i] ^= byte(x)
				none(t, name+", turned at "+strconv.Itoa(i), turned)
			}
		}
	}
}

// TestP10_5Cut: what is cut, at either end, is told.
func TestP10_5Cut(t *testing.T) {
	for name, l := range map[string][]api.Entry{"nothing": nil, "one": numbered(1), "17": numbered(17), "odd": odd()} {
		b, _ := Write(l)
		for i := range b {
			none(t, name+", cut at "+strconv.Itoa(i), b[:i])
			none(t, name+", cut ahead of "+strconv.Itoa(i+1), b[i+1:])
		}
	}
}

// TestP2ListAndTable: what a list has is the same when it is written as a table.
func TestP2ListAndTable(t *testing.T) {
	list, together := skip.New(), map[string]api.Agg{}
	for i := range 500 {
		k := "fact " + strconv.Itoa(i*37%101)
		v := int64(i*i%1000) - 300
		if e := list.Put(one(k, v), 1+i%api.MaxTower); e != api.OK {
			t.Fatalf("Put: %v", e)
		}
		together[k] = agg.Merge(together[k], agg.One(v))
	}
	all := list.All()
	x := opened(t, all)
	holds(t, "list", x, all)
	if x.Len() != 101 {
		t.Errorf("Len = %d", x.Len())
	}
	for k, want := range together {
		a, ok := x.Get([]byte(k))
		if b, there := list.Get([]byte(k)); !ok || !there || a != want || b != want {
			t.Errorf("Get(%q) = %v, of the list %v", k, a, b)
		}
	}
}

// TestP1NewMemory: what is handed out is new memory, what is handed in stays and is not kept.
func TestP1NewMemory(t *testing.T) {
	room := []byte("keyBEHIND")
	b, e := Write([]api.Entry{{Key: room[:3], Agg: agg.One(4)}, one("l", 5)})
	want := plainWrite([]api.Entry{one("key", 4), one("l", 5)})
	if e != api.OK || !bytes.Equal(b, want) || string(room) != "keyBEHIND" {
		t.Fatalf("Write: %v, %q", e, room)
	}
	clear(room)
	if !bytes.Equal(b, want) {
		t.Errorf("Write hands out what was handed in")
	}
	behind := append(b, "BEHIND"...)
	x, e := Open(behind[:len(want)])
	if e != api.OK || string(behind) != string(want)+"BEHIND" {
		t.Fatalf("Open: %v", e)
	}
	clear(behind)
	l := []api.Entry{one("key", 4), one("l", 5)}
	holds(t, "behind what came in was cleared", x, l)
	first, last, _ := x.Ends()
	all := append(append(x.All(), x.Seek([]byte("key"), 2)...), api.Entry{Key: first}, api.Entry{Key: last})
	for i := range all {
		_ = append(all[i].Key, "over what lies behind"...)
		clear(all[i].Key)
		holds(t, "behind what went out was cleared", x, l)
	}
	only := opened(t, l[:1])
	first, last, _ = only.Ends()
	clear(first)
	if string(last) != "key" {
		t.Errorf("the two ends share memory")
	}
}

// FuzzOpen: whatever is opened is written again just so.
func FuzzOpen(f *testing.F) {
	for name, l := range lists() {
		if len(l) < 40 {
			f.Add(plainWrite(l), name)
		}
	}
	f.Fuzz(func(t *testing.T, b []byte, key string) {
		x, e := Open(b)
		if e != api.OK {
			if e != api.ErrTable || x != nil {
				t.Errorf("Open = %v, %v", x, e)
			}
			return
		}
		l := x.All()
		if again, e := Write(l); e != api.OK || !bytes.Equal(again, b) {
			t.Errorf("another way")
		}
		if got := x.Seek([]byte(key), 3); !same(got, from(l, key, 3)) {
			t.Errorf("Seek(%q) = %v", key, got)
		}
	})
}

// FuzzRows: rows that no sum keeps out are told for what they are.
func FuzzRows(f *testing.F) {
	p := plainParts(numbered(3), 16)
	f.Add(p.rows[0], plainRow(p.keys, p.places), p.filter, p.foot)
	f.Fuzz(func(t *testing.T, row, index, filter, foot []byte) {
		var b []byte
		for _, data := range [][]byte{row, index, filter, foot} {
			if len(data) > api.MaxFrame {
				return
			}
			b = append(b, plainFrame(data)...)
		}
		x, e := Open(b)
		if e == api.OK && !bytes.Equal(plainWrite(x.All()), b) {
			t.Errorf("another way")
		}
	})
}
