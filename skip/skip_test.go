package skip

import (
	"bytes"
	"math"
	"slices"
	"strconv"
	"strings"
	"testing"

	"rickyard/agg"
	"rickyard/api"
)

// some is the next number of a row that is made by a rule.
func some(x uint32) uint32 {
	return x*1664525 + 1013904223
}

// one is an entry of one fact.
func one(key string, v int64) api.Entry {
	return api.Entry{Key: []byte(key), Agg: agg.One(v)}
}

// texts is unlike keys that may be, in no order: fronts of each other, bytes at the edges, the shortest and the longest.
func texts() []string {
	long := strings.Repeat("x", 256)
	l := []string{"b", "a", "ab", "aa", "\x00", "\x00\x00", "\x01", "\xff", "\xff\xff", "a\x00", "a\xff", "\x80", "\x7f", "\u00e4", long, long[1:], long[:255] + "y"}
	for i := range 20 {
		l = append(l, "key "+strconv.Itoa(i*7%20))
	}
	return l
}

// wrongTexts is keys that may not be.
func wrongTexts() []string {
	return []string{"", strings.Repeat("x", 257), strings.Repeat("x", 300), strings.Repeat("x", 256+512)}
}

// rightOnes is what may be known of an entry, at the edges.
func rightOnes() []api.Agg {
	return []api.Agg{
		agg.One(0), agg.One(-1), agg.One(math.MinInt64), agg.One(math.MaxInt64), agg.Many([]int64{3, -5, 4}),
		{Count: 1, Min: 3, Max: 3},
		{Count: math.MaxUint64, Min: -1, Max: 1},
		{Count: math.MaxUint64, Over: true, Sum: api.Wide{Hi: math.MaxInt64, Lo: math.MaxUint64}, Min: math.MinInt64, Max: math.MaxInt64},
	}
}

// wrongOnes is what may not be known of an entry.
func wrongOnes() []api.Agg {
	return []api.Agg{
		{}, {Over: true}, {Sum: api.Wide{Lo: 1}}, {Sum: api.Wide{Hi: 1}}, {Min: 1, Max: 1}, {Min: -1}, {Max: 1},
		{Count: 1, Min: 2, Max: 1}, {Count: 1, Over: true}, {Count: math.MaxUint64 - 1, Over: true},
		{Count: math.MaxUint64, Over: true, Min: 1},
	}
}

// plain is what a list has, by its keys.
type plain map[string]api.Agg

func (p plain) put(x api.Entry) {
	p[string(x.Key)] = agg.Merge(p[string(x.Key)], x.Agg)
}

// from is the first most entries whose keys are not less than key, all of them gone through.
func (p plain) from(key string, most int) []api.Entry {
	var names []string
	for name := range p {
		if name >= key {
			names = append(names, name)
		}
	}
	slices.Sort(names)
	var l []api.Entry
	for _, name := range names {
		if len(l) < most {
			l = append(l, api.Entry{Key: []byte(name), Agg: p[name]})
		}
	}
	return l
}

func (p plain) size() int {
	n := 0
	for name := range p {
		n += len(name) + 41
	}
	return n
}

// same tells whether two rows of entries are the same.
func same(a, b []api.Entry) bool {
	return slices.EqualFunc(a, b, func(x, y api.Entry) bool {
		return bytes.Equal(x.Key, y.Key) && x.Agg == y.Agg
	})
}

// put puts an entry that may be put.
func put(t *testing.T, l *List, x api.Entry, height int) {
	t.Helper()
	if e := l.Put(x, height); e != api.OK {
		t.Fatalf("Put(%q, %d): %v", x.Key, height, e)
	}
}

// holds holds all that a list tells against a plain one.
func holds(t *testing.T, name string, l *List, p plain) {
	t.Helper()
	if got := l.All(); !same(got, p.from("", math.MaxInt)) {
		t.Errorf("%s: All = %v", name, got)
	}
	if l.Len() != len(p) || l.Size() != p.size() {
		t.Errorf("%s: Len, Size = %d, %d", name, l.Len(), l.Size())
	}
	for _, k := range append(texts(), wrongTexts()...) {
		want, ok := p[k]
		if got, there := l.Get([]byte(k)); got != want || there != ok {
			t.Errorf("%s: Get(%q) = %v, %v", name, k, got, there)
		}
		for _, most := range []int{1, 2, 1000} {
			if got := l.Seek([]byte(k), most); !same(got, p.from(k, most)) {
				t.Errorf("%s: Seek(%q, %d) = %v", name, k, most, got)
			}
		}
	}
}

// filled is a list of all texts, with some keys put twice, and the plain one.
func filled(t *testing.T) (*List, plain) {
	t.Helper()
	l, p := New(), plain{}
	for i, k := range append(texts(), texts()[3:9]...) {
		x := one(k, int64(i*i-300))
		put(t, l, x, 1+i%api.MaxTower)
		p.put(x)
	}
	return l, p
}

func TestP8_1New(t *testing.T) {
	for name, l := range map[string]*List{"New": New(), "hand-made": {}, "new": new(List)} {
		holds(t, name, l, plain{})
		if l.Frozen() {
			t.Errorf("%s: frozen", name)
		}
		put(t, l, one("b", 1), 3)
		put(t, l, one("a", 2), 8)
		holds(t, name, l, plain{"a": agg.One(2), "b": agg.One(1)})
		if e := l.Freeze(); e != api.OK || !l.Frozen() {
			t.Errorf("%s: Freeze: %v", name, e)
		}
	}
	a, b := New(), New()
	put(t, a, one("a", 1), 1)
	holds(t, "another list", b, plain{})
}

func TestP8_1Nil(t *testing.T) {
	var l *List
	for _, x := range []api.Entry{one("a", 1), one("", 1), {}} {
		for _, height := range []int{-1, 0, 1, 8, 9} {
			if e := l.Put(x, height); e != api.ErrNil {
				t.Errorf("Put: %v", e)
			}
		}
	}
	if a, ok := l.Get([]byte("a")); ok || a != (api.Agg{}) {
		t.Errorf("Get = %v, %v", a, ok)
	}
	if len(l.Seek(nil, 5)) != 0 || len(l.All()) != 0 || l.Len() != 0 || l.Size() != 0 || l.Frozen() {
		t.Errorf("nil has something")
	}
	if e := l.Freeze(); e != api.ErrNil {
		t.Errorf("Freeze: %v", e)
	}
}

func TestP8_1Heights(t *testing.T) {
	l, p := New(), plain{}
	for _, height := range []int{math.MinInt, -8, -1, 0, 9, 10, 16, 256, 257, math.MaxInt} {
		if e := l.Put(one("a", 1), height); e != api.ErrArg {
			t.Errorf("Put at %d: %v", height, e)
		}
	}
	holds(t, "behind wrong heights", l, p)
	for height := 1; height <= 8; height++ {
		x := one(strconv.Itoa(height), 1)
		put(t, l, x, height)
		p.put(x)
	}
	holds(t, "behind right heights", l, p)
	put(t, l, one("1", 5), 8)
	if e := l.Put(one("1", 1), 9); e != api.ErrArg {
		t.Errorf("Put at 9 of a key that is there: %v", e)
	}
	if a, _ := l.Get([]byte("1")); a.Count != 2 {
		t.Errorf("Get = %v", a)
	}
}

func TestP8_1Keys(t *testing.T) {
	l := New()
	for _, k := range wrongTexts() {
		if e := l.Put(one(k, 1), 1); e != api.ErrKey {
			t.Errorf("Put of %d bytes: %v", len(k), e)
		}
	}
	if e := l.Put(api.Entry{Agg: agg.One(1)}, 1); e != api.ErrKey {
		t.Errorf("Put of nil: %v", e)
	}
	holds(t, "behind wrong keys", l, plain{})
	for n := 1; n <= 256; n++ {
		put(t, l, one(strings.Repeat("k", n), 1), 1+n%8)
	}
	if l.Len() != 256 {
		t.Errorf("Len = %d", l.Len())
	}
}

func TestP8_1Known(t *testing.T) {
	for _, there := range []bool{false, true} {
		l, p := New(), plain{}
		if there {
			put(t, l, one("a", 1), 2)
			p.put(one("a", 1))
		}
		for _, a := range wrongOnes() {
			if e := l.Put(api.Entry{Key: []byte("a"), Agg: a}, 1); e != api.ErrForm {
				t.Errorf("Put of %v: %v", a, e)
			}
		}
		holds(t, "behind wrong ones", l, p)
		for i, a := range rightOnes() {
			for _, k := range []string{"a", strconv.Itoa(i)} {
				x := api.Entry{Key: []byte(k), Agg: a}
				put(t, l, x, 1)
				p.put(x)
			}
		}
		holds(t, "behind right ones", l, p)
		if a, ok := l.Get([]byte("a")); !ok || !a.Over || a.Count != math.MaxUint64 {
			t.Errorf("Get = %v, %v", a, ok)
		}
	}
}

// full is a list with as many entries as there may be, and the plain one.
func full(t *testing.T) (*List, plain) {
	t.Helper()
	l, p := New(), plain{}
	for i := range api.MaxEntries {
		x := one("f"+strconv.Itoa(i*1021%api.MaxEntries), int64(i))
		put(t, l, x, 1+i%7%api.MaxTower)
		p.put(x)
	}
	return l, p
}

func TestP8_1Full(t *testing.T) {
	l, p := full(t)
	if l.Len() != 4096 {
		t.Fatalf("Len = %d", l.Len())
	}
	for _, k := range []string{"a", "f", "f00", "z"} {
		for height := 1; height <= api.MaxTower; height++ {
			if e := l.Put(one(k, 1), height); e != api.ErrFull {
				t.Errorf("Put(%q, %d): %v", k, height, e)
			}
		}
	}
	holds(t, "full", l, p)
	for _, k := range []string{"f0", "f4095", "f77"} {
		put(t, l, one(k, -9), 5)
		p.put(one(k, -9))
	}
	holds(t, "full, and merged", l, p)
	for k := range p {
		if a, ok := l.Get([]byte(k)); !ok || a != p[k] {
			t.Errorf("Get(%q) = %v, %v", k, a, ok)
		}
	}
}

// TestP8_1FirstFault: of all faults that a Put has, the first one in the document's order is told, and nothing changes.
func TestP8_1FirstFault(t *testing.T) {
	order := []api.Errno{api.ErrArg, api.ErrState, api.ErrKey, api.ErrForm, api.ErrFull}
	for faults := range 1 << len(order) {
		has := func(i int) bool { return faults>>i&1 == 1 }
		l, p := New(), plain{}
		if has(4) {
			l, p = full(t)
		}
		if has(1) {
			l.Freeze()
		}
		x, height, want := one("new", 1), 1, api.OK
		if has(0) {
			height = 9
		}
		if has(2) {
			x.Key = nil
		}
		if has(3) {
			x.Agg.Count = 0
		}
		for i := len(order) - 1; i >= 0; i-- {
			if has(i) {
				want = order[i]
			}
		}
		if want == api.OK {
			p.put(x)
		}
		if e := l.Put(x, height); e != want || l.Frozen() != has(1) {
			t.Errorf("faults %05b: %v, frozen %v", faults, e, l.Frozen())
		}
		holds(t, "faults "+strconv.Itoa(faults), l, p)
	}
}

// TestTowers: on each level stand just the entries whose towers are higher, in order.
func TestTowers(t *testing.T) {
	l, heights := New(), map[string]int{}
	x := uint32(5)
	for i := range 300 {
		x = some(x)
		k, height := strconv.Itoa(int(x>>16)), 1+i%api.MaxTower
		put(t, l, one(k, 1), height)
		if heights[k] == 0 {
			heights[k] = height
		}
	}
	for level := range api.MaxTower {
		var want, got []string
		for k, height := range heights {
			if height > level {
				want = append(want, k)
			}
		}
		slices.Sort(want)
		for n := l.head.next[level]; n != nil; n = n.next[level] {
			got = append(got, string(n.entry.Key))
		}
		if !slices.Equal(got, want) {
			t.Errorf("level %d: %v", level, got)
		}
	}
}

func TestP8_2Get(t *testing.T) {
	l, p := filled(t)
	for k, want := range p {
		if a, ok := l.Get([]byte(k)); !ok || a != want {
			t.Errorf("Get(%q) = %v, %v", k, a, ok)
		}
		for _, near := range []string{k + "\x00", k[:len(k)-1], k + k, "?" + k} {
			_, there := p[near]
			a, ok := l.Get([]byte(near))
			if ok != there || a != p[near] {
				t.Errorf("Get(%q) = %v, %v", near, a, ok)
			}
		}
	}
	if a, ok := l.Get(nil); ok || a != (api.Agg{}) {
		t.Errorf("Get(nil) = %v, %v", a, ok)
	}
}

func TestP8_2Seek(t *testing.T) {
	l, p := filled(t)
	n := len(p)
	from := append(texts(), "", "key", "key 1z", "zz", "\xff\xff\xff", strings.Repeat("x", 257))
	for _, k := range from {
		for _, most := range []int{math.MinInt, -1, 0, 1, 2, 3, n - 1, n, n + 1, math.MaxInt} {
			if got := l.Seek([]byte(k), most); !same(got, p.from(k, most)) {
				t.Errorf("Seek(%q, %d) = %v", k, most, got)
			}
		}
	}
	if got := l.Seek(nil, n); !same(got, l.All()) {
		t.Errorf("Seek(nil) = %v", got)
	}
}

func TestP8_2AllLenSize(t *testing.T) {
	l, p := New(), plain{}
	for i, k := range append(texts(), texts()...) {
		x := one(k, int64(i))
		put(t, l, x, 1+i%3)
		p.put(x)
		if !same(l.All(), p.from("", math.MaxInt)) || l.Len() != len(p) || l.Size() != p.size() {
			t.Fatalf("behind %q: %v, %d, %d", k, l.All(), l.Len(), l.Size())
		}
	}
}

func TestP8_2Freeze(t *testing.T) {
	l, p := filled(t)
	if l.Frozen() {
		t.Errorf("frozen ahead of Freeze")
	}
	if e := l.Freeze(); e != api.OK || !l.Frozen() {
		t.Errorf("Freeze: %v, %v", e, l.Frozen())
	}
	for range 2 {
		if e := l.Freeze(); e != api.ErrState || !l.Frozen() {
			t.Errorf("Freeze again: %v, %v", e, l.Frozen())
		}
	}
	for _, k := range []string{"a", "new"} {
		if e := l.Put(one(k, 1), 1); e != api.ErrState {
			t.Errorf("Put(%q): %v", k, e)
		}
	}
	holds(t, "frozen", l, p)
}

// TestP8_3Heights: lists whose towers are unlike tell the same.
func TestP8_3Heights(t *testing.T) {
	rules := map[string]func(i int) int{
		"rising":  func(i int) int { return 1 + i%8 },
		"falling": func(i int) int { return 8 - i%8 },
		"halves":  func(i int) int { return 1 + 7*(i%2) },
		"by a rule": func(i int) int {
			return 1 + int(some(uint32(i))>>29)
		},
	}
	for height := 1; height <= api.MaxTower; height++ {
		rules["all "+strconv.Itoa(height)] = func(int) int { return height }
	}
	puts := append(texts(), texts()[:20]...)
	for name, height := range rules {
		l, p := New(), plain{}
		for i, k := range puts {
			x := one(k, int64(i))
			put(t, l, x, height(i))
			p.put(x)
		}
		holds(t, name, l, p)
	}
}

// orders calls for every order of some numbers.
func orders(n int, call func([]int)) {
	var row []int
	var more func()
	more = func() {
		if len(row) == n {
			call(row)
			return
		}
		for i := range n {
			if !slices.Contains(row, i) {
				row = append(row, i)
				more()
				row = row[:len(row)-1]
			}
		}
	}
	more()
}

func TestP8_4Order(t *testing.T) {
	puts := []api.Entry{one("b", 1), one("a", -3), one("b", 7), one("ab", 2), one("b", math.MinInt64), {Key: []byte("a"), Agg: api.Agg{Count: math.MaxUint64, Min: 1, Max: 1}}}
	p := plain{}
	for _, x := range puts {
		p.put(x)
	}
	want := p.from("", math.MaxInt)
	orders(len(puts), func(row []int) {
		l := New()
		for _, i := range row {
			put(t, l, puts[i], 1+i)
		}
		if got := l.All(); !same(got, want) || l.Len() != 3 || l.Size() != p.size() {
			t.Errorf("order %v: %v", row, got)
		}
	})
}

// TestP8_5Rising: entries rise strictly, and what Seek tells stands so, in a row, in All.
func TestP8_5Rising(t *testing.T) {
	l, x := New(), uint32(9)
	for i := range 500 {
		x = some(x)
		key := []byte{byte(x >> 24 % 5), byte(x >> 16), byte(x >> 8)}[:1+i%3]
		put(t, l, api.Entry{Key: key, Agg: agg.One(int64(i))}, 1+i%8)
	}
	all := l.All()
	for i := 1; i < len(all); i++ {
		if bytes.Compare(all[i-1].Key, all[i].Key) >= 0 {
			t.Errorf("%v stands ahead of %v", all[i-1].Key, all[i].Key)
		}
	}
	for first := range 7 {
		for second := range 256 {
			key := []byte{byte(first), byte(second)}
			at := 0
			for at < len(all) && bytes.Compare(all[at].Key, key) < 0 {
				at++
			}
			for _, most := range []int{1, 5, 1000} {
				if got := l.Seek(key, most); !same(got, all[at:min(at+most, len(all))]) {
					t.Errorf("Seek(%v, %d) is no part of All from %d on", key, most, at)
				}
			}
		}
	}
}

// TestFromLeftEarly: no entry is told behind the one at which the loop is left.
func TestFromLeftEarly(t *testing.T) {
	l, p := filled(t)
	for left := 1; left <= len(p); left++ {
		var got []api.Entry
		for x := range l.from([]byte("a")) {
			got = append(got, x)
			if len(got) == left {
				break
			}
		}
		if !same(got, p.from("a", left)) {
			t.Errorf("left behind %d: %v", left, got)
		}
	}
}

// TestP1NewMemory: what is handed out is new memory, what is handed in stays and is not kept.
func TestP1NewMemory(t *testing.T) {
	room := []byte("keyBEHIND")
	l, p := New(), plain{}
	x := api.Entry{Key: room[:3], Agg: agg.One(4)}
	put(t, l, x, 2)
	put(t, l, x, 3)
	put(t, l, one("l", 4), 1)
	p.put(x)
	p.put(x)
	p.put(one("l", 4))
	l.Get(room[:3])
	l.Seek(room[:3], 2)
	if string(room) != "keyBEHIND" {
		t.Errorf("a key is written on: %q", room)
	}
	clear(room)
	holds(t, "behind what came in was cleared", l, p)
	for _, out := range [][]api.Entry{l.All(), l.Seek([]byte("key"), 2), l.Seek(nil, 1)} {
		for i := range out {
			_ = append(out[i].Key, "over what lies behind"...)
			clear(out[i].Key)
		}
		clear(out)
		holds(t, "behind what went out was cleared", l, p)
	}
}

// FuzzPuts: whatever is put, the list tells what the plain one tells.
func FuzzPuts(f *testing.F) {
	f.Add([]byte{})
	f.Add([]byte("\x01b\x02a\x03b"))
	f.Add([]byte("\x08a\x00\x09a\x11\x22"))
	f.Fuzz(func(t *testing.T, b []byte) {
		l, p := New(), plain{}
		b = b[:min(len(b), api.MaxEntries)] // too few for a full list
		for len(b) >= 4 {
			height, n := int(b[0]%10), int(b[1]%4)
			if len(b) < 2+n {
				break
			}
			x := api.Entry{Key: b[2 : 2+n], Agg: agg.One(int64(b[1]))}
			want := api.OK
			switch {
			case height < 1 || height > 8:
				want = api.ErrArg
			case n == 0:
				want = api.ErrKey
			default:
				p.put(x)
			}
			if e := l.Put(x, height); e != want {
				t.Errorf("Put(%v, %d): %v", x.Key, height, e)
			}
			b = b[2+n:]
			if got := l.Seek(b, 3); !same(got, p.from(string(b), 3)) {
				t.Errorf("Seek(%v) = %v", b, got)
			}
		}
		if got := l.All(); !same(got, p.from("", math.MaxInt)) || l.Len() != len(p) || l.Size() != p.size() {
			t.Errorf("All = %v", got)
		}
	})
}
