package code

import (
	"bytes"
	"cmp"
	"math"
	"slices"
	"strings"
	"testing"

	"rickyard/api"
)

const most = math.MaxUint64

// numbers is numbers around every count of binary digits.
func numbers() []uint64 {
	l := []uint64{0, 300, 12345678901234567890}
	for i := range 64 {
		one := uint64(1) << i
		l = append(l, one-1, one, one+1, -one, ^one)
	}
	slices.Sort(l)
	return slices.Compact(l)
}

// signed is the same numbers, with sign, in their order.
func signed() []int64 {
	var l []int64
	for _, n := range numbers() {
		l = append(l, int64(n))
	}
	slices.Sort(l)
	return slices.Compact(l)
}

// texts is all texts of up to four of the bytes that matter, and some others, in their order.
func texts() []string {
	l := []string{""}
	front := []string{""}
	for range 4 {
		var longer []string
		for _, s := range front {
			for _, b := range []string{"\x00", "\x01", "a", "\xff"} {
				longer = append(longer, s+b)
			}
		}
		l = append(l, longer...)
		front = longer
	}
	l = append(l, "rickyard", "\u00e4\u00f6", "\x80\xfe", strings.Repeat("\x00", 50), strings.Repeat("x", 50), "\x02")
	slices.Sort(l)
	return slices.Compact(l)
}

// behind is what may stand behind something that is read.
func behind() [][]byte {
	return [][]byte{nil, {}, {0}, {1}, {128}, {255}, {0, 255}, {0, 1}, {0, 7}, bytes.Repeat([]byte{255}, 12)}
}

func TestP4_1Short(t *testing.T) {
	for _, c := range []struct {
		v    uint64
		want []byte
	}{
		{0, []byte{0}}, {1, []byte{1}}, {127, []byte{127}}, {128, []byte{128, 1}}, {300, []byte{172, 2}},
		{16383, []byte{255, 127}}, {16384, []byte{128, 128, 1}},
		{1 << 63, []byte{128, 128, 128, 128, 128, 128, 128, 128, 128, 1}},
		{1<<63 - 1, []byte{255, 255, 255, 255, 255, 255, 255, 255, 127}},
		{most, []byte{255, 255, 255, 255, 255, 255, 255, 255, 255, 1}},
	} {
		if got := Short(c.v); !bytes.Equal(got, c.want) {
			t.Errorf("Short(%d) = %v, want %v", c.v, got, c.want)
		}
	}
}

func TestP4_1ReadShortFaults(t *testing.T) {
	nine := func(tenth ...byte) []byte { return append(bytes.Repeat([]byte{128}, 9), tenth...) }
	for _, c := range []struct {
		b    []byte
		want api.Errno
	}{
		{nil, api.ErrShort}, {[]byte{}, api.ErrShort}, {[]byte{128}, api.ErrShort}, {[]byte{255, 255}, api.ErrShort}, {nine(), api.ErrShort},
		{nine(2), api.ErrWide}, {nine(3), api.ErrWide}, {nine(127), api.ErrWide}, {nine(128), api.ErrWide}, {nine(129), api.ErrWide}, {nine(255), api.ErrWide},
		{nine(128, 0), api.ErrWide}, {nine(128, 1), api.ErrWide}, {nine(129, 0, 5), api.ErrWide}, {bytes.Repeat([]byte{255}, 40), api.ErrWide},
		{nine(0), api.ErrForm}, {nine(0, 9), api.ErrForm}, {[]byte{128, 0}, api.ErrForm}, {[]byte{255, 0, 1}, api.ErrForm}, {[]byte{129, 128, 0}, api.ErrForm},
	} {
		if v, n, e := ReadShort(c.b); e != c.want || v != 0 || n != 0 {
			t.Errorf("ReadShort(%v) = %d, %d, %v, want %v", c.b, v, n, e, c.want)
		}
	}
	for _, c := range []struct {
		b []byte
		v uint64
		n int
	}{
		{[]byte{0}, 0, 1}, {[]byte{0, 0}, 0, 1}, {[]byte{1, 128}, 1, 1}, {nine(1), 1 << 63, 10}, {nine(1, 0), 1 << 63, 10}, {[]byte{172, 2, 0}, 300, 2},
	} {
		if v, n, e := ReadShort(c.b); e != api.OK || v != c.v || n != c.n {
			t.Errorf("ReadShort(%v) = %d, %d, %v, want %d, %d", c.b, v, n, e, c.v, c.n)
		}
	}
}

func TestP4_2Number(t *testing.T) {
	for _, c := range []struct {
		v    int64
		want []byte
	}{
		{0, []byte{128, 0, 0, 0, 0, 0, 0, 0}}, {-1, []byte{127, 255, 255, 255, 255, 255, 255, 255}}, {1, []byte{128, 0, 0, 0, 0, 0, 0, 1}},
		{math.MinInt64, make([]byte, 8)}, {math.MaxInt64, bytes.Repeat([]byte{255}, 8)},
		{0x0102030405060708, []byte{129, 2, 3, 4, 5, 6, 7, 8}},
	} {
		if got := Number(c.v); !bytes.Equal(got, c.want) {
			t.Errorf("Number(%d) = %v, want %v", c.v, got, c.want)
		}
	}
	for n := range 8 {
		if v, took, e := ReadNumber(bytes.Repeat([]byte{200}, 20)[:n]); e != api.ErrShort || v != 0 || took != 0 {
			t.Errorf("ReadNumber of %d bytes = %d, %d, %v, want ErrShort", n, v, took, e)
		}
	}
	if v, took, e := ReadNumber(nil); e != api.ErrShort || v != 0 || took != 0 {
		t.Errorf("ReadNumber(nil) = %d, %d, %v, want ErrShort", v, took, e)
	}
}

func TestP4_2Text(t *testing.T) {
	for _, c := range []struct{ s, want string }{
		{"", "\x00\x01"}, {"a", "a\x00\x01"}, {"a\x00", "a\x00\xff\x00\x01"}, {"\x00", "\x00\xff\x00\x01"}, {"\x00\x00", "\x00\xff\x00\xff\x00\x01"},
		{"\x01", "\x01\x00\x01"}, {"\xff", "\xff\x00\x01"}, {"\x00\x01", "\x00\xff\x01\x00\x01"}, {"\u00e4", "\xc3\xa4\x00\x01"}, {"\xc3", "\xc3\x00\x01"},
	} {
		if got := Text(c.s); string(got) != c.want {
			t.Errorf("Text(%q) = %q, want %q", c.s, got, c.want)
		}
	}
}

func TestP4_2ReadTextFaults(t *testing.T) {
	for _, c := range []struct {
		b    string
		want api.Errno
	}{
		{"", api.ErrShort}, {"a", api.ErrShort}, {"\x00", api.ErrShort}, {"a\x00", api.ErrShort}, {"\x00\xff", api.ErrShort}, {"\x00\xff\x00", api.ErrShort}, {"\x01", api.ErrShort}, {"\xff\xff", api.ErrShort},
		{"\x00\x00", api.ErrForm}, {"\x00\x02", api.ErrForm}, {"\x00\xfe", api.ErrForm}, {"a\x00a", api.ErrForm}, {"\x00\x00\x01", api.ErrForm}, {"\x00\xff\x00\x80", api.ErrForm}, {"b\x00\x00\xff\x00\x01", api.ErrForm},
	} {
		if s, n, e := ReadText([]byte(c.b)); e != c.want || s != "" || n != 0 {
			t.Errorf("ReadText(%q) = %q, %d, %v, want %v", c.b, s, n, e, c.want)
		}
	}
	for next := range 256 {
		want := api.ErrForm
		if next == 1 {
			want = api.OK
		} else if next == 255 {
			want = api.ErrShort
		}
		if _, _, e := ReadText([]byte{0, byte(next)}); e != want {
			t.Errorf("ReadText of 0 and %d: %v, want %v", next, e, want)
		}
	}
	// What lies behind a list's length is not read.
	if _, n, e := ReadText([]byte{97, 0, 1}[:2]); e != api.ErrShort || n != 0 {
		t.Errorf("ReadText of a front = %d, %v, want ErrShort", n, e)
	}
}

func TestP4_3ThereAndBack(t *testing.T) {
	for _, tail := range behind() {
		for _, v := range numbers() {
			b := Short(v)
			if got, n, e := ReadShort(append(slices.Clone(b), tail...)); e != api.OK || got != v || n != len(b) {
				t.Errorf("ReadShort(Short(%d) and %v) = %d, %d, %v", v, tail, got, n, e)
			}
		}
		for _, v := range signed() {
			if got, n, e := ReadNumber(append(Number(v), tail...)); e != api.OK || got != v || n != 8 {
				t.Errorf("ReadNumber(Number(%d) and %v) = %d, %d, %v", v, tail, got, n, e)
			}
		}
		for _, s := range texts() {
			b := Text(s)
			if got, n, e := ReadText(append(slices.Clone(b), tail...)); e != api.OK || got != s || n != len(b) {
				t.Errorf("ReadText(Text(%q) and %v) = %q, %d, %v", s, tail, got, n, e)
			}
		}
	}
}

func TestP4_3Cut(t *testing.T) {
	cut := func(b []byte, read func([]byte) api.Errno) {
		for n := range b {
			if e := read(b[:n]); e != api.ErrShort {
				t.Fatalf("%d of the bytes %v are read: %v", n, b, e)
			}
		}
	}
	for _, v := range numbers() {
		cut(Short(v), func(b []byte) api.Errno { _, _, e := ReadShort(b); return e })
		cut(Number(int64(v)), func(b []byte) api.Errno { _, _, e := ReadNumber(b); return e })
	}
	for _, s := range texts() {
		cut(Text(s), func(b []byte) api.Errno { _, _, e := ReadText(b); return e })
	}
}

// ordered asks whether bytes stand as what they are made of, and no one's are the front of another one's.
func ordered[T cmp.Ordered](t *testing.T, l []T, made func(T) []byte) {
	t.Helper()
	for _, a := range l {
		for _, b := range l {
			x, y := made(a), made(b)
			if bytes.Compare(x, y) != cmp.Compare(a, b) {
				t.Fatalf("%v and %v: their bytes %v and %v stand otherwise", a, b, x, y)
			}
			if a != b && bytes.HasPrefix(x, y) {
				t.Fatalf("%v and %v: of their bytes %v and %v one is the front of the other", a, b, x, y)
			}
		}
	}
}

func TestP4_4InOrder(t *testing.T) {
	ordered(t, signed(), Number)
	ordered(t, texts(), Text)
}

func TestP4_5Short(t *testing.T) {
	before := 0
	for _, v := range numbers() {
		need := 1
		for x := v >> 7; x > 0; x >>= 7 {
			need++
		}
		n := len(Short(v))
		if n != need || n < before {
			t.Errorf("Short(%d) has %d bytes, needed are %d, a lesser number has %d", v, n, need, before)
		}
		before = n
	}
}

// TestP1NewMemory: what is handed out is new memory, what is handed in stays.
func TestP1NewMemory(t *testing.T) {
	for _, made := range []func() []byte{
		func() []byte { return Short(300) },
		func() []byte { return Number(-9) },
		func() []byte { return Text("a\x00b") },
	} {
		first := made()
		kept := bytes.Clone(first)
		clear(first)
		if again := made(); !bytes.Equal(again, kept) {
			t.Errorf("two answers share memory: %v, then %v", kept, again)
		}
	}
	in := []byte("a\x00\xff\x00\x01")
	kept := bytes.Clone(in)
	s, _, _ := ReadText(in)
	if !bytes.Equal(in, kept) {
		t.Errorf("ReadText changed what it was handed: %v", in)
	}
	clear(in)
	if s != "a\x00" {
		t.Errorf("the text hangs on the bytes it was read from: %q", s)
	}
}

// FuzzReads: any bytes are either written again as they were, or refused; none panics.
func FuzzReads(f *testing.F) {
	f.Add([]byte{})
	f.Add([]byte{172, 2, 9})
	f.Add([]byte("a\x00\xff\x00\x01"))
	f.Fuzz(func(t *testing.T, b []byte) {
		if v, n, e := ReadShort(b); e != api.OK && (v != 0 || n != 0) || e == api.OK && !bytes.Equal(Short(v), b[:n]) {
			t.Errorf("ReadShort(%v) = %d, %d, %v", b, v, n, e)
		}
		if v, n, e := ReadNumber(b); e != api.OK && (v != 0 || n != 0) || e == api.OK && !bytes.Equal(Number(v), b[:n]) {
			t.Errorf("ReadNumber(%v) = %d, %d, %v", b, v, n, e)
		}
		if s, n, e := ReadText(b); e != api.OK && (s != "" || n != 0) || e == api.OK && !bytes.Equal(Text(s), b[:n]) {
			t.Errorf("ReadText(%v) = %q, %d, %v", b, s, n, e)
		}
	})
}
