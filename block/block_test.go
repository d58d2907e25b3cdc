package block

import (
	"bytes"
	"encoding/binary"
	"math"
	"slices"
	"strconv"
	"strings"
	"testing"

	"rickyard/api"
)

// pair is a pair of two texts.
func pair(key, value string) Pair {
	return Pair{Key: []byte(key), Value: []byte(value)}
}

// numbered is a row of n pairs, whose keys have some bytes in common, with values of all lengths below five.
func numbered(n int) []Pair {
	var l []Pair
	for i := range n {
		l = append(l, pair("key "+string(rune('a'+i/1000))+strconv.Itoa(1000+i%1000), strings.Repeat("v", i%5)))
	}
	return l
}

// rows is rows that may be, at the edges too.
func rows() map[string][]Pair {
	long := strings.Repeat("x", 4096)
	return map[string][]Pair{
		"nothing":           nil,
		"an empty pair":     {{}},
		"empty, then more":  {pair("", "v"), pair("\x00", ""), pair("\x00\x00", "w"), pair("\x00\x01", "")},
		"the example":       {pair("ab", "\x01"), pair("ac", "")},
		"fronts":            {pair("a", "1"), pair("ab", "2"), pair("abc", "3"), pair("abd", "4"), pair("b", "5")},
		"bytes at the edge": {pair("\x7f", "\x80"), pair("\x80", "\xff"), pair("\xff", "\x00"), pair("\xff\xff", "")},
		"128 bytes":         {pair(long[:127], long[:128]), pair(long[:128], long[:127]), pair(long[:129], ""), pair(long[:128]+"y", "")},
		"the longest":       {pair(long[:4095], long), pair(long, long[:4095]), pair(long[:4095]+"y", long), pair("y", "")},
		"7 pairs":           numbered(7),
		"8 pairs":           numbered(8),
		"9 pairs":           numbered(9),
		"16 pairs":          numbered(16),
		"17 pairs":          numbered(17),
		"100 pairs":         numbered(100),
		"the most":          numbered(4096),
	}
}

// plainCommon counts from the longest front down.
func plainCommon(a, b []byte) int {
	for n := len(a); n > 0; n-- {
		if bytes.HasPrefix(b, a[:n]) {
			return n
		}
	}
	return 0
}

// plainWrite is a row's bytes as the words say, whether the pairs may be or not.
func plainWrite(l []Pair) []byte {
	var out []byte
	for i, p := range l {
		same := 0
		if i%8 != 0 {
			same = plainCommon(l[i-1].Key, p.Key)
		}
		for _, n := range []int{same, len(p.Key) - same, len(p.Value)} {
			out = binary.AppendUvarint(out, uint64(n))
		}
		out = append(append(out, p.Key[same:]...), p.Value...)
	}
	return out
}

// plainRight tells whether pairs are a row.
func plainRight(l []Pair) bool {
	for i, p := range l {
		if len(p.Key) > 4096 || len(p.Value) > 4096 || i > 0 && string(l[i-1].Key) >= string(p.Key) {
			return false
		}
	}
	return len(l) <= 4096
}

// plainRead takes whatever looks like pairs, and then holds it to the one way in which it may be written.
func plainRead(b []byte) ([]Pair, bool) {
	var l []Pair
	var ahead []byte
	for rest := b; len(rest) > 0; {
		var sizes [3]uint64
		for i := range sizes {
			v, n := binary.Uvarint(rest)
			if n <= 0 || v > uint64(len(b))+4096 {
				return nil, false
			}
			sizes[i], rest = v, rest[n:]
		}
		if sizes[0] > uint64(len(ahead)) || sizes[1]+sizes[2] > uint64(len(rest)) {
			return nil, false
		}
		p := pair(string(ahead[:sizes[0]])+string(rest[:sizes[1]]), string(rest[sizes[1]:sizes[1]+sizes[2]]))
		l = append(l, p)
		ahead, rest = p.Key, rest[sizes[1]+sizes[2]:]
	}
	if !plainRight(l) || !bytes.Equal(plainWrite(l), b) {
		return nil, false
	}
	return l, true
}

// same tells whether two rows are the same.
func same(a, b []Pair) bool {
	return slices.EqualFunc(a, b, func(x, y Pair) bool {
		return bytes.Equal(x.Key, y.Key) && bytes.Equal(x.Value, y.Value)
	})
}

// written is the bytes of a row that may be.
func written(t *testing.T, l []Pair) []byte {
	t.Helper()
	b, e := Write(l)
	if e != api.OK {
		t.Fatalf("Write: %v", e)
	}
	return b
}

// none holds Read and Seek to bytes that are none of a row.
func none(t *testing.T, name string, b []byte) {
	t.Helper()
	if l, e := Read(b); e != api.ErrBlock || len(l) != 0 {
		t.Errorf("%s: Read = %v, %v", name, l, e)
	}
	for _, key := range []string{"", "a", "b", "\xff\xff\xff"} {
		if p, ok, e := Seek(b, []byte(key)); e != api.ErrBlock || ok || p.Key != nil || p.Value != nil {
			t.Errorf("%s: Seek(%q) = %v, %v, %v", name, key, p, ok, e)
		}
	}
}

// texts is short texts of a few letters, all of them.
func texts(most int, letters ...byte) [][]byte {
	all := [][]byte{{}}
	for i := 0; len(all[i]) < most; i++ {
		for _, x := range letters {
			all = append(all, append(slices.Clone(all[i]), x))
		}
	}
	return all
}

func TestP9_1Common(t *testing.T) {
	all := append(texts(4, 'a', 0, 255), nil, bytes.Repeat([]byte{7}, 5000), bytes.Repeat([]byte{7}, 4999))
	for _, a := range all {
		for _, b := range all {
			if got := Common(a, b); got != plainCommon(a, b) {
				t.Errorf("Common(%v, %v) = %d", a, b, got)
			}
		}
	}
	if got := Common([]byte("abcd"), []byte("abxd")); got != 2 {
		t.Errorf("Common = %d", got)
	}
}

func TestP9_1Write(t *testing.T) {
	for name, l := range rows() {
		if b, e := Write(l); e != api.OK || !bytes.Equal(b, plainWrite(l)) {
			t.Errorf("%s: Write = %v, %v", name, b, e)
		}
	}
}

func TestP9_1Examples(t *testing.T) {
	eight := "\x00\x01\x00a" + "\x01\x01\x00a" + "\x02\x01\x00a" + "\x03\x01\x00a" + "\x04\x01\x00a" + "\x05\x01\x00a" + "\x06\x01\x00a" + "\x07\x01\x00a"
	var nine []Pair
	for i := range 9 {
		nine = append(nine, pair(strings.Repeat("a", i+1), ""))
	}
	long := strings.Repeat("x", 300)
	for _, c := range []struct {
		row  []Pair
		want string
	}{
		{nil, ""},
		{[]Pair{{}}, "\x00\x00\x00"},
		{[]Pair{pair("ab", "\x01"), pair("ac", "")}, "\x00\x02\x01ab\x01\x01\x01\x00c"},
		{nine, eight + "\x00\x09\x00aaaaaaaaa"},
		{[]Pair{pair(long, long[:128])}, "\x00\xac\x02\x80\x01" + long + long[:128]},
	} {
		if got := written(t, c.row); string(got) != c.want {
			t.Errorf("Write = %q, want %q", got, c.want)
		}
	}
}

func TestP9_1Long(t *testing.T) {
	if _, e := Write(numbered(4096)); e != api.OK {
		t.Errorf("4096 pairs: %v", e)
	}
	for _, n := range []int{4097, 4098, 5000, 8192} {
		if b, e := Write(numbered(n)); e != api.ErrLong || len(b) != 0 {
			t.Errorf("%d pairs: %d bytes, %v", n, len(b), e)
		}
	}
	for _, n := range []int{4097, 4098, 8192, 70000} {
		long := strings.Repeat("x", n)
		for _, l := range [][]Pair{
			{pair(long, "")}, {pair("a", long)}, {pair("a", ""), pair(long, "")}, {pair("a", ""), pair("b", long)},
			{pair(long, ""), pair("y", "")}, {pair("a", long), pair("b", "")},
		} {
			if b, e := Write(l); e != api.ErrLong || len(b) != 0 {
				t.Errorf("%d bytes: %v, %v", n, b, e)
			}
		}
	}
}

func TestP9_1Order(t *testing.T) {
	for _, l := range [][]Pair{
		{pair("b", ""), pair("a", "")}, {pair("a", "1"), pair("a", "2")}, {pair("ab", ""), pair("a", "")}, {pair("", ""), pair("", "")},
		{{}, {}}, {pair("a", ""), pair("", "")}, {pair("\x80", ""), pair("\x7f", "")}, {pair("a", ""), pair("c", ""), pair("b", "")},
		append(numbered(8), numbered(1)...), append(numbered(7), numbered(7)[6]), append(numbered(9), numbered(9)[8]),
	} {
		if b, e := Write(l); e != api.ErrOrder || len(b) != 0 {
			t.Errorf("Write(%q) = %v, %v", l, b, e)
		}
	}
}

// TestP9_1FirstFault: what is too long is told ahead of the order, wherever the two stand.
func TestP9_1FirstFault(t *testing.T) {
	long := strings.Repeat("x", 4097)
	for name, l := range map[string][]Pair{
		"order, then key":   {pair("b", ""), pair("a", ""), pair(long, "")},
		"order, then value": {pair("b", ""), pair("a", ""), pair("c", long)},
		"key, then order":   {pair(long, ""), pair("b", ""), pair("a", "")},
		"one and the same":  {pair(long, ""), pair(long, "")},
		"too many":          append(numbered(4096), pair("", "")),
	} {
		if b, e := Write(l); e != api.ErrLong || len(b) != 0 {
			t.Errorf("%s: %d bytes, %v", name, len(b), e)
		}
	}
}

func TestP9_2Read(t *testing.T) {
	for name, l := range rows() {
		if got, e := Read(plainWrite(l)); e != api.OK || !same(got, l) {
			t.Errorf("%s: Read = %v, %v", name, got, e)
		}
	}
}

// TestP9_2Wrong: bytes of no row, each for another reason.
func TestP9_2Wrong(t *testing.T) {
	long := strings.Repeat("x", 4096)
	most := string(plainWrite(numbered(4096)))
	for name, b := range map[string]string{
		"one number":                    "\x00",
		"two numbers":                   "\x00\x00",
		"a number cut":                  "\x00\x00\x80",
		"a key cut":                     "\x00\x02\x00a",
		"a value cut":                   "\x00\x01\x02ab",
		"nothing of a value":            "\x00\x01\x01a",
		"a number of two ways":          "\x80\x00\x01\x00a",
		"a length of two ways":          "\x00\x81\x00\x00a",
		"a value's length of two":       "\x00\x01\x80\x00a",
		"a common front at first":       "\x01\x01\x00a",
		"all common at first":           "\x01\x00\x00",
		"too much in common":            "\x00\x01\x00a\x02\x01\x00b",
		"too little in common":          "\x00\x01\x00a\x00\x02\x00ab",
		"too little, and more":          "\x00\x02\x00ab\x01\x02\x00bc",
		"the same key":                  "\x00\x01\x00a\x01\x00\x00",
		"the same key, whole":           "\x00\x01\x00a\x00\x01\x00a",
		"no key twice":                  "\x00\x00\x00\x00\x00\x00",
		"falling":                       "\x00\x01\x00b\x00\x01\x00a",
		"a front behind":                "\x00\x02\x00ab\x01\x00\x00",
		"junk behind":                   "\x00\x01\x00a\x00",
		"a key too long":                "\x00\x81\x20\x00" + long + "x",
		"a value too long":              "\x00\x01\x81\x20a" + long + "x",
		"a key too long with the front": "\x00\x80\x20\x00" + long + "\x80\x20\x01\x00y",
		"long by the front alone":       "\x00\x01\x00x\x01\x80\x20\x00" + long,
		"a great number":                "\x00\xff\xff\xff\xff\xff\xff\xff\xff\xff\x01\x00a",
		"great numbers":                 "\x00\x01\x00a\xff\xff\xff\xff\xff\xff\xff\xff\xff\x01\x02\x00ab",
		"numbers that wrap round":       "\x00\x02\xff\xff\xff\xff\xff\xff\xff\xff\xff\x01ab",
		"2^32 and more":                 "\x00\x81\x80\x80\x80\x10\x00a",
		"2^32 of a value":               "\x00\x01\x80\x80\x80\x80\x10a",
		"eleven bytes":                  "\x00\xff\xff\xff\xff\xff\xff\xff\xff\xff\x02\x00a",
		"too many pairs":                most + "\x00\x01\x00z",
		"far too many":                  most + string(plainWrite([]Pair{pair("z", ""), pair("za", ""), pair("zb", "")})),
		"falling at the end":            string(plainWrite(append(numbered(100), pair("", "")))),
	} {
		none(t, name, []byte(b))
	}
}

// TestP9_2Eighth: the eighth pair, and each eighth behind it, has nothing in common, the others all that they can.
func TestP9_2Eighth(t *testing.T) {
	for place := 1; place < 30; place++ {
		front := string(plainWrite(numbered(place)))
		ahead, key := "key a"+strconv.Itoa(999+place), "key a"+strconv.Itoa(1000+place)
		all := plainCommon([]byte(ahead), []byte(key))
		if place%8 == 0 {
			all = 0
		}
		for kept := range plainCommon([]byte(ahead), []byte(key)) + 1 {
			b := []byte(front + string([]byte{byte(kept), byte(len(key) - kept), 0}) + key[kept:])
			if kept != all {
				none(t, strconv.Itoa(kept)+" kept", b)
			} else if l, e := Read(b); e != api.OK || len(l) != place+1 || string(l[place].Key) != key {
				t.Errorf("place %d, %d kept: %v, %v", place, kept, l, e)
			}
		}
	}
}

// TestP9_2AllShort: of all texts of a few bytes, just those are read that are a row's.
func TestP9_2AllShort(t *testing.T) {
	right := 0
	for _, b := range append(texts(8, 0, 1, 2, 128), texts(11, 0, 1)...) {
		want, ok := plainRead(b)
		got, e := Read(b)
		if (e == api.OK) != ok || e != api.OK && e != api.ErrBlock || !same(got, want) {
			t.Fatalf("Read(%v) = %v, %v", b, got, e)
		}
		if ok {
			right++
		}
	}
	if right < 100 {
		t.Errorf("only %d rows among them", right)
	}
}

func TestP9_2Seek(t *testing.T) {
	for name, l := range rows() {
		if len(l) > 1000 {
			continue
		}
		b := plainWrite(l)
		keys := append(texts(2, 'a', 'b', 'k', 0, 255), nil, bytes.Repeat([]byte{'x'}, 5000), bytes.Repeat([]byte{255}, 5000))
		for _, p := range l {
			keys = append(keys, p.Key, append(slices.Clone(p.Key), 0), p.Key[:len(p.Key)/2], p.Key[:max(len(p.Key)-1, 0)])
		}
		for _, key := range keys {
			at := 0
			for at < len(l) && string(l[at].Key) < string(key) {
				at++
			}
			p, ok, e := Seek(b, key)
			if e != api.OK || ok != (at < len(l)) {
				t.Errorf("%s: Seek(%q) = %v, %v, %v", name, key, p, ok, e)
			}
			if ok && !same([]Pair{p}, l[at:at+1]) || !ok && (p.Key != nil || p.Value != nil) {
				t.Errorf("%s: Seek(%q) = %q", name, key, p)
			}
		}
	}
}

// TestP9_2SeekMost: in a row of as many pairs as there may be, each is found.
func TestP9_2SeekMost(t *testing.T) {
	l := numbered(4096)
	b := plainWrite(l)
	for _, at := range []int{0, 1, 2047, 4094, 4095} {
		if p, ok, e := Seek(b, l[at].Key); e != api.OK || !ok || !same([]Pair{p}, l[at:at+1]) {
			t.Errorf("Seek of %d = %v, %v, %v", at, p, ok, e)
		}
	}
	if p, ok, e := Seek(b, []byte("z")); e != api.OK || ok || p.Key != nil {
		t.Errorf("Seek behind all = %v, %v, %v", p, ok, e)
	}
}

// TestP9_2SeekWrongBehind: what is wrong behind the pair that is looked for is told.
func TestP9_2SeekWrongBehind(t *testing.T) {
	b := plainWrite(numbered(20))
	for cut := 1; cut < len(b); cut++ {
		if _, ok := plainRead(b[:cut]); !ok {
			none(t, "cut at "+strconv.Itoa(cut), b[:cut])
		}
	}
}

func TestP9_3ThereAndBack(t *testing.T) {
	for name, l := range rows() {
		b := written(t, l)
		got, e := Read(b)
		if e != api.OK || !same(got, l) || !bytes.Equal(written(t, got), b) {
			t.Errorf("%s: %v", name, e)
		}
	}
}

// TestP9_3OneWay: bytes that are turned, cut or put in are none of a row, or just those of another one.
func TestP9_3OneWay(t *testing.T) {
	for name, l := range rows() {
		if len(l) > 20 {
			continue
		}
		b := written(t, l)
		for i := range min(len(b), 300) {
			for x := 0; x < 256; x += 1 + len(b)/100 {
				if byte(x) == b[i] {
					continue
				}
				turned := slices.Clone(b)
				turned[i] = byte(x)
				oneWay(t, name, turned)
			}
			oneWay(t, name, b[:i])
			oneWay(t, name, slices.Delete(slices.Clone(b), i, i+1))
			oneWay(t, name, slices.Insert(slices.Clone(b), i, 0))
		}
	}
}

// oneWay holds Read to the plain reading, and what it reads to its bytes.
func oneWay(t *testing.T, name string, b []byte) {
	t.Helper()
	want, ok := plainRead(b)
	got, e := Read(b)
	if (e == api.OK) != ok || !same(got, want) {
		t.Fatalf("%s: Read(%v) = %v, %v", name, b, got, e)
	}
	if ok && !bytes.Equal(written(t, got), b) {
		t.Fatalf("%s: %v goes back as another one", name, b)
	}
}

// TestP9_4Seek: what Seek tells is in the row, and all that is ahead of it is less.
func TestP9_4Seek(t *testing.T) {
	var l []Pair
	all := texts(3, 'a', 'b', 'c')
	slices.SortFunc(all, bytes.Compare)
	for i, key := range all {
		if i%3 == 1 {
			l = append(l, Pair{Key: key, Value: []byte{byte(i)}})
		}
	}
	b := written(t, l)
	for _, key := range all {
		p, ok, e := Seek(b, key)
		at := slices.IndexFunc(l, func(x Pair) bool { return bytes.Equal(x.Key, p.Key) && bytes.Equal(x.Value, p.Value) })
		if !ok {
			at = len(l)
		}
		if e != api.OK || at < 0 || ok && bytes.Compare(p.Key, key) < 0 {
			t.Fatalf("Seek(%q) = %q, %v, %v", key, p, ok, e)
		}
		for _, x := range l[:at] {
			if bytes.Compare(x.Key, key) >= 0 {
				t.Errorf("Seek(%q) = %q, and %q is ahead of it", key, p.Key, x.Key)
			}
		}
	}
}

func TestP9_5Short(t *testing.T) {
	all := rows()
	for _, size := range []int{0, 1, 127, 128, 4088} {
		var l []Pair
		for i := range 50 {
			l = append(l, pair(strings.Repeat("k", size)+strconv.Itoa(100+i), strings.Repeat("v", size)))
		}
		all[strconv.Itoa(size)+" bytes"] = l
	}
	for name, l := range all {
		most := 9 * len(l)
		for _, p := range l {
			most += len(p.Key) + len(p.Value)
		}
		if n := len(written(t, l)); n > most {
			t.Errorf("%s: %d bytes, of at most %d", name, n, most)
		}
	}
}

// TestPairsLeftEarly: no pair is told behind the one at which the loop is left.
func TestPairsLeftEarly(t *testing.T) {
	l := numbered(20)
	b := plainWrite(l)
	for left := 1; left <= len(l); left++ {
		var got []Pair
		for p, behind := range pairs(b) {
			got = append(got, p)
			if len(behind) != len(b)-len(plainWrite(l[:len(got)])) {
				t.Errorf("behind %d pairs stand %d bytes", len(got), len(behind))
			}
			if len(got) == left {
				break
			}
		}
		if !same(got, l[:left]) {
			t.Errorf("left behind %d: %v", left, got)
		}
	}
}

// TestP1NewMemory: what is handed out is new memory, what is handed in stays and is not kept.
func TestP1NewMemory(t *testing.T) {
	room := []byte("abVALUEacBEHIND")
	l := []Pair{{Key: room[0:2], Value: room[2:7]}, {Key: room[7:9], Value: room[9:9]}}
	b := written(t, l)
	want := slices.Clone(b)
	if string(room) != "abVALUEacBEHIND" {
		t.Errorf("a pair is written on: %q", room)
	}
	clear(room)
	if !bytes.Equal(b, want) {
		t.Errorf("Write hands out what was handed in")
	}
	behind := append(slices.Clone(b), "\x00\x01\x00a"...)
	row, e := Read(behind[:len(b)])
	p, ok, f := Seek(behind[:len(b)], []byte("ab"))
	if e != api.OK || f != api.OK || !ok || len(row) != 2 {
		t.Fatalf("Read, Seek: %v, %v", e, f)
	}
	if string(behind) != string(b)+"\x00\x01\x00a" {
		t.Errorf("a row's bytes are written on: %q", behind)
	}
	clear(behind)
	if string(row[0].Key) != "ab" || string(row[0].Value) != "VALUE" || string(p.Key) != "ab" || string(p.Value) != "VALUE" {
		t.Errorf("what was read is what was handed in: %q, %q", row, p)
	}
	_ = append(row[0].Key, "over what lies behind"...)
	_ = append(row[0].Value, "over what lies behind"...)
	clear(row[0].Key)
	if string(row[0].Value) != "VALUE" || string(row[1].Key) != "ac" {
		t.Errorf("two lists share memory: %q", row)
	}
}

// TestP1Ends: long bytes without sense are refused, whatever lengths they tell.
func TestP1Ends(t *testing.T) {
	for _, n := range []int{1, 100, 100000, math.MaxUint16 * 20} {
		none(t, "zeros", make([]byte, n))
		none(t, "255s", bytes.Repeat([]byte{255}, n))
		none(t, "127s", bytes.Repeat([]byte{0, 127}, n))
	}
}

// FuzzRead: whatever is read is read as the plain reading says.
func FuzzRead(f *testing.F) {
	for _, l := range rows() {
		if len(l) < 20 {
			f.Add(plainWrite(l), []byte("ab"))
		}
	}
	f.Fuzz(func(t *testing.T, b, key []byte) {
		oneWay(t, "fuzz", b)
		l, e := Read(b)
		at := slices.IndexFunc(l, func(p Pair) bool { return bytes.Compare(p.Key, key) >= 0 })
		p, ok, g := Seek(b, key)
		if g != e || ok != (at >= 0) || ok && !same([]Pair{p}, l[at:at+1]) {
			t.Errorf("Seek(%v, %v) = %v, %v, %v", b, key, p, ok, g)
		}
	})
}
