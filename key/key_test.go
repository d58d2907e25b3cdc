package key

import (
	"bytes"
	"math"
	"math/bits"
	"slices"
	"strings"
	"testing"

	"rickyard/api"
	"rickyard/code"
)

const top = api.MaxTime

// groups is dimensions with which a key may be: all short lists of texts that matter, and those at the edges.
func groups() [][]string {
	words := []string{"", "\x00", "\x00\x01", "\x01", "a", "a\x00", "ab", "b", "\xff"}
	l := [][]string{nil}
	for _, x := range words {
		l = append(l, []string{x})
		for _, y := range words {
			l = append(l, []string{x, y})
		}
	}
	long := strings.Repeat("x", api.MaxDim)
	noughts := strings.Repeat("\x00", api.MaxDim)
	return append(l,
		[]string{long}, []string{noughts}, []string{long[1:]}, []string{noughts[1:]},
		[]string{"", "", ""}, []string{"", "", "", ""}, []string{"a", "b", "c"}, []string{"a", "b", "c", "d"},
		[]string{long, long, long, long}, []string{noughts, noughts, noughts, noughts}, []string{"\u00e4", "\xc3", "\x80"})
}

// wrongGroups is dimensions with which no key may be.
func wrongGroups() [][]string {
	long := strings.Repeat("x", api.MaxDim+1)
	return [][]string{
		{"a", "b", "c", "d", "e"}, {"", "", "", "", ""}, make([]string, 100), {long}, {"a", long}, {"a", "b", "c", long}, {long, "a"},
		{strings.Repeat("\x00", api.MaxDim+1)}, {strings.Repeat("x", 1000)}, {strings.Repeat("\u00e4", 9)},
	}
}

// keys is keys that may be.
func keys() []api.Key {
	var l []api.Key
	for _, dims := range groups() {
		for _, from := range []int64{0, 1, 255, 256, top - 1, top} {
			for gran := range api.MaxGrans {
				l = append(l, api.Key{Dims: dims, From: from, Gran: gran})
			}
		}
	}
	return l
}

// fewKeys is some of them, few enough to hold each against each.
func fewKeys() []api.Key {
	return slices.DeleteFunc(keys(), func(k api.Key) bool {
		return k.From == 255 || k.From == 1 || k.From == top-1 || k.Gran == 1 || k.Gran == 2
	})
}

// wrongKeys is keys each of which has one thing that may not be.
func wrongKeys() []api.Key {
	var l []api.Key
	for _, dims := range wrongGroups() {
		l = append(l, api.Key{Dims: dims})
	}
	for _, from := range []int64{-1, top + 1, math.MinInt64, math.MaxInt64} {
		l = append(l, api.Key{From: from}, api.Key{Dims: []string{"a"}, From: from, Gran: 3})
	}
	for _, gran := range []int{-1, api.MaxGrans, 255, 256, 257, math.MinInt, math.MaxInt} {
		l = append(l, api.Key{Gran: gran}, api.Key{Dims: []string{"a"}, From: 5, Gran: gran})
	}
	return l
}

// plainGroup is a group's bytes as the words say, whether it may be or not.
func plainGroup(dims []string) []byte {
	var b []byte
	for _, d := range dims {
		b = append(b, 1)
		b = append(b, strings.ReplaceAll(d, "\x00", "\x00\xff")...)
		b = append(b, 0, 1)
	}
	return append(b, 0)
}

// plainWrite is a key's bytes as the words say, whether it may be or not.
func plainWrite(k api.Key) []byte {
	b := plainGroup(k.Dims)
	for i := range 8 {
		x := byte(k.From >> (56 - 8*i))
		if i == 0 {
			x ^= 128
		}
		b = append(b, x)
	}
	return append(b, byte(k.Gran))
}

// written is a key's bytes, of a key that may be.
func written(t *testing.T, k api.Key) []byte {
	t.Helper()
	b, e := Write(k)
	if e != api.OK {
		t.Fatalf("Write(%#v) = %v", k, e)
	}
	return b
}

// group is a group's bytes, of dimensions that may be.
func group(t *testing.T, dims []string) []byte {
	t.Helper()
	b, e := Group(dims)
	if e != api.OK {
		t.Fatalf("Group(%#v) = %v", dims, e)
	}
	return b
}

// same tells whether two keys are one.
func same(a, b api.Key) bool {
	return slices.Equal(a.Dims, b.Dims) && a.From == b.From && a.Gran == b.Gran
}

// plainLess is the order as the words say.
func plainLess(a, b api.Key) bool {
	for i := 0; i < len(a.Dims) && i < len(b.Dims); i++ {
		if c := bytes.Compare([]byte(a.Dims[i]), []byte(b.Dims[i])); c != 0 {
			return c < 0
		}
	}
	if len(a.Dims) != len(b.Dims) {
		return len(a.Dims) < len(b.Dims)
	}
	if a.From != b.From {
		return a.From < b.From
	}
	return a.Gran < b.Gran
}

// refused asks whether bytes are read as no key.
func refused(t *testing.T, name string, b []byte) {
	t.Helper()
	if k, e := Read(b); e != api.ErrKey || len(k.Dims) != 0 || k.From != 0 || k.Gran != 0 {
		t.Errorf("%s: Read(%v) = %#v, %v, want ErrKey", name, b, k, e)
	}
}

func TestP6_1Right(t *testing.T) {
	for _, k := range keys() {
		if !Right(k) {
			t.Errorf("Right(%#v) = false", k)
		}
	}
	if !Right(api.Key{}) || !Right(api.Key{Dims: []string{}}) {
		t.Errorf("a key without dimensions may not be")
	}
	for _, k := range wrongKeys() {
		if Right(k) {
			t.Errorf("Right(%#v) = true", k)
		}
		if b, e := Write(k); e != api.ErrKey || len(b) != 0 {
			t.Errorf("Write(%#v) = %v, %v, want ErrKey", k, b, e)
		}
	}
}

func TestP6_1Write(t *testing.T) {
	for _, c := range []struct {
		k    api.Key
		want []byte
	}{
		{api.Key{Dims: []string{"a"}, Gran: 1}, []byte{1, 97, 0, 1, 0, 128, 0, 0, 0, 0, 0, 0, 0, 1}},
		{api.Key{}, []byte{0, 128, 0, 0, 0, 0, 0, 0, 0, 0}},
		{api.Key{Dims: []string{""}, From: 258, Gran: 3}, []byte{1, 0, 1, 0, 128, 0, 0, 0, 0, 0, 1, 2, 3}},
		{api.Key{Dims: []string{"\x00", "b"}, From: top, Gran: 2}, []byte{1, 0, 255, 0, 1, 1, 98, 0, 1, 0, 128, 0, 1, 0, 0, 0, 0, 0, 2}},
	} {
		if b, e := Write(c.k); e != api.OK || !bytes.Equal(b, c.want) {
			t.Errorf("Write(%#v) = %v, %v, want %v", c.k, b, e, c.want)
		}
	}
	for _, k := range keys() {
		if b, e := Write(k); e != api.OK || !bytes.Equal(b, plainWrite(k)) {
			t.Errorf("Write(%#v) = %v, %v, want %v", k, b, e, plainWrite(k))
		}
	}
}

func TestP6_1Read(t *testing.T) {
	for _, k := range keys() {
		if got, e := Read(plainWrite(k)); e != api.OK || !same(got, k) {
			t.Errorf("Read of %#v = %#v, %v", k, got, e)
		}
	}
}

func TestP6_1ReadFaults(t *testing.T) {
	for _, k := range wrongKeys() {
		if k.Gran == int(byte(k.Gran)) { // others have no bytes of their own
			refused(t, "a key that may not be", plainWrite(k))
		}
	}
	tail := append(code.Number(5), 1)
	with := func(front string) []byte { return append([]byte(front), tail...) }
	for _, c := range []struct {
		name string
		b    []byte
	}{
		{"nil", nil}, {"empty", []byte{}}, {"no group's end", []byte{1}}, {"no text", []byte{1, 0}}, {"a dimension alone", []byte{1, 97, 0, 1}}, {"a group alone", []byte{1, 97, 0, 1, 0}},
		{"no tail", []byte{0}}, {"a tail without Gran", append([]byte{0}, tail[:8]...)}, {"a tail too long", append(with("\x00"), 0)}, {"a tail alone", tail},
		{"a byte 2 ahead", with("\x02a\x00\x01\x00")}, {"a byte 255 ahead", with("\xff\x00")}, {"a byte 2 between", with("\x01a\x00\x01\x02b\x00\x01\x00")},
		{"a text without end", bytes.Repeat([]byte{1}, 300)}, {"a text with a wrong 0", with("\x01a\x00\x02\x00\x01\x00")}, {"no byte 1 ahead of a text", with("a\x00\x01\x00")},
		{"five dimensions", with(strings.Repeat("\x01a\x00\x01", 5) + "\x00")}, {"many dimensions", with(strings.Repeat("\x01\x00\x01", 100000) + "\x00")},
		{"a long text", with("\x01" + strings.Repeat("a", 100000) + "\x00\x01\x00")},
		{"From below 0", append([]byte{0, 127, 255, 255, 255, 255, 255, 255, 255}, 0)}, {"From too great", append([]byte{0, 128, 0, 1, 0, 0, 0, 0, 1}, 0)},
		{"Gran 4", append([]byte{0}, append(code.Number(0), 4)...)}, {"Gran 255", append([]byte{0}, append(code.Number(0), 255)...)},
	} {
		refused(t, c.name, c.b)
	}
	// What lies behind a list's length is not read.
	whole := with("\x01a\x00\x01\x00")
	refused(t, "a front in an array that has the rest", whole[:len(whole)-1])
}

func TestP6_2Less(t *testing.T) {
	key := func(from int64, gran int, dims ...string) api.Key { return api.Key{Dims: dims, From: from, Gran: gran} }
	rising := []api.Key{
		key(math.MinInt64, math.MaxInt), key(-1, 0), key(0, -1), key(0, 0), key(0, 3), key(0, math.MaxInt), key(1, 0), key(top, 3), key(math.MaxInt64, 0),
		key(9, 9, ""), key(0, 0, "", ""), key(7, 2, "\x00"), key(0, 0, "\x01"), key(5, 1, "a"), key(5, 2, "a"), key(6, 0, "a"),
		key(0, 0, "a", ""), key(0, 0, "a", "b"), key(0, 0, "a", "b", "c"), key(0, 0, "a", "c"), key(0, 0, "a\x00"), key(0, 0, "aa"),
		key(0, 0, "b"), key(0, 0, "b", "a"), key(0, 0, "b", "a", "a", "a", "a", "a"), key(0, 0, strings.Repeat("b", 30)), key(0, 0, "\x7f"), key(0, 0, "\x80"), key(0, 0, "\u00e4"), key(0, 0, "\xff"),
	}
	for i, a := range rising {
		for j, b := range rising {
			if got := Less(a, b); got != (i < j) {
				t.Errorf("Less(%#v, %#v) = %v", a, b, got)
			}
		}
	}
	if Less(api.Key{}, api.Key{Dims: []string{}}) || Less(api.Key{Dims: []string{}}, api.Key{}) {
		t.Errorf("a nil list and an empty one are unlike")
	}
	l := fewKeys()
	for _, a := range l {
		for _, b := range l {
			if got := Less(a, b); got != plainLess(a, b) {
				t.Fatalf("Less(%#v, %#v) = %v", a, b, got)
			}
		}
	}
}

func TestP6_2Group(t *testing.T) {
	for _, dims := range groups() {
		if b, e := Group(dims); e != api.OK || !bytes.Equal(b, plainGroup(dims)) {
			t.Errorf("Group(%#v) = %v, %v, want %v", dims, b, e, plainGroup(dims))
		}
	}
	if b, e := Group([]string{}); e != api.OK || !bytes.Equal(b, []byte{0}) {
		t.Errorf("Group of no dimensions = %v, %v", b, e)
	}
	for _, dims := range wrongGroups() {
		if b, e := Group(dims); e != api.ErrKey || len(b) != 0 {
			t.Errorf("Group(%#v) = %v, %v, want ErrKey", dims, b, e)
		}
	}
}

func TestP6_2Part(t *testing.T) {
	many := make([]string, 200)
	for i := range many {
		many[i] = string(rune('0' + i))
	}
	for _, dims := range [][]string{nil, {}, {"a"}, {"a", "b"}, {"a", "b", "c"}, {"b", "a", "b", ""}, {strings.Repeat("x", 99)}, many} {
		for _, mask := range []int{0, 1, 2, 3, 4, 5, 6, 7, 8, 9, 10, 11, 12, 13, 14, 15, 16, 1 << 20, 1<<20 + 1, math.MaxInt, math.MaxInt - 1, math.MaxInt/2 + 1} {
			var want []string
			for i, d := range dims {
				if i < bits.UintSize && uint(mask)&(1<<i) != 0 {
					want = append(want, d)
				}
			}
			if got, e := Part(dims, mask); e != api.OK || !slices.Equal(got, want) {
				t.Errorf("Part(%#v, %d) = %#v, %v, want %#v", dims, mask, got, e, want)
			}
		}
		for _, mask := range []int{-1, -2, math.MinInt, math.MinInt + 1} {
			if got, e := Part(dims, mask); e != api.ErrArg || len(got) != 0 {
				t.Errorf("Part(%#v, %d) = %#v, %v, want ErrArg", dims, mask, got, e)
			}
		}
	}
	if got, e := Part([]string{"a", "b", "c"}, 5); e != api.OK || !slices.Equal(got, []string{"a", "c"}) {
		t.Errorf("Part of a, b, c with 5 = %#v, %v", got, e)
	}
	if got, _ := Part(many, math.MaxInt); len(got) != bits.UintSize-1 {
		t.Errorf("the greatest mask takes %d of many dimensions", len(got))
	}
}

func TestP6_3InOrder(t *testing.T) {
	l := fewKeys()
	bytesOf := make([][]byte, len(l))
	for i, k := range l {
		bytesOf[i] = written(t, k)
	}
	for i, a := range l {
		for j, b := range l {
			x, y := bytesOf[i], bytesOf[j]
			if Less(a, b) != (bytes.Compare(x, y) < 0) {
				t.Fatalf("%#v and %#v: their bytes %v and %v stand otherwise", a, b, x, y)
			}
			if i != j && bytes.HasPrefix(x, y) {
				t.Fatalf("%#v and %#v: of their bytes %v and %v one is the front of the other", a, b, x, y)
			}
		}
	}
}

func TestP6_4ThereAndBack(t *testing.T) {
	for _, k := range keys() {
		b := written(t, k)
		if got, e := Read(b); e != api.OK || !same(got, k) {
			t.Errorf("Read(Write(%#v)) = %#v, %v", k, got, e)
		}
		for n := range b {
			refused(t, "cut", b[:n])
		}
		for _, more := range []byte{0, 1, 255} {
			refused(t, "with a byte behind", append(bytes.Clone(b), more))
		}
	}
}

// TestP6_4OneWayAlone: bytes that are changed at one place are refused, or those of another key.
func TestP6_4OneWayAlone(t *testing.T) {
	for _, k := range fewKeys() {
		b := written(t, k)
		for i := range b {
			kept := b[i]
			for _, x := range []byte{0, 1, 2, 3, 4, 97, 127, 128, 129, 254, 255} {
				b[i] = x
				got, e := Read(b)
				if e != api.OK && e != api.ErrKey {
					t.Fatalf("Read(%v) = %#v, %v", b, got, e)
				}
				if e == api.OK && (!Right(got) || !bytes.Equal(written(t, got), b) || same(got, k) != (x == kept)) {
					t.Fatalf("Read(%v) = %#v, which has other bytes", b, got)
				}
			}
			b[i] = kept
		}
	}
}

func TestP6_5Groups(t *testing.T) {
	list := groups()
	for _, k := range keys() {
		b := written(t, k)
		for _, dims := range list {
			if got, want := bytes.HasPrefix(b, group(t, dims)), slices.Equal(k.Dims, dims); got != want {
				t.Fatalf("the bytes of %#v begin with those of the group %#v: %v, want %v", k, dims, got, want)
			}
		}
	}
}

// TestP1NewMemory: what is handed out is new memory, what is handed in stays.
func TestP1NewMemory(t *testing.T) {
	room := []string{"a", "b", "c", "behind"}
	dims := room[:3]
	k := api.Key{Dims: dims, From: 7, Gran: 2}
	first, again := written(t, k), written(t, k)
	clear(first)
	if !bytes.Equal(again, plainWrite(k)) || !bytes.Equal(written(t, k), again) {
		t.Errorf("two answers of Write share memory: %v", again)
	}
	g := group(t, dims)
	clear(g)
	if !bytes.Equal(group(t, dims), plainGroup(dims)) {
		t.Errorf("two answers of Group share memory")
	}
	part, _ := Part(dims, 7)
	clear(part)
	_ = append(part, "over what lies behind")
	if !slices.Equal(room, []string{"a", "b", "c", "behind"}) {
		t.Errorf("a part shares memory with the dimensions: %#v", room)
	}
	in := plainWrite(k)
	got, e := Read(in)
	if e != api.OK || !bytes.Equal(in, plainWrite(k)) {
		t.Errorf("Read changed what it was handed: %v, %v", in, e)
	}
	clear(in)
	if !same(got, k) {
		t.Errorf("the key hangs on the bytes it was read from: %#v", got)
	}
}

// FuzzRead: any bytes are either written again as they were, or refused; none panics.
func FuzzRead(f *testing.F) {
	f.Add([]byte{})
	f.Add(plainWrite(api.Key{Dims: []string{"a\x00", "", "b"}, From: 5, Gran: 1}))
	f.Add(plainWrite(api.Key{From: top, Gran: 3}))
	f.Fuzz(func(t *testing.T, b []byte) {
		k, e := Read(b)
		if e != api.OK && (e != api.ErrKey || len(k.Dims) != 0 || k.From != 0 || k.Gran != 0) {
			t.Errorf("Read(%v) = %#v, %v", b, k, e)
		}
		if e == api.OK && (!Right(k) || !bytes.Equal(plainWrite(k), b)) {
			t.Errorf("Read(%v) = %#v", b, k)
		}
	})
}
