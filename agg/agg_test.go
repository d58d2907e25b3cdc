package agg

import (
	"bytes"
	"math"
	"math/big"
	"slices"
	"testing"

	"rickyard/api"
	"rickyard/wide"
)

const most = math.MaxUint64

// facts is values, the ends of what 64 digits can tell among them.
func facts() []int64 {
	return []int64{3, -5, 0, 1, -1, math.MaxInt64, math.MinInt64, 7, 7, math.MaxInt64, math.MinInt64, 1 << 40, -1 << 40}
}

// rights is what may be known: of nothing, of facts, and hand-made ones at the edges.
func rights() []api.Agg {
	l := []api.Agg{
		{},
		{Count: most, Min: 1, Max: 1},
		{Count: most, Over: true, Min: -1, Max: 1},
		{Count: most, Over: true, Sum: wide.Of(-9), Min: math.MinInt64, Max: math.MaxInt64},
		{Count: most - 1, Sum: api.Wide{Hi: math.MaxInt64, Lo: most}, Min: 0, Max: 5},
		{Count: 1 << 63, Sum: api.Wide{Hi: math.MinInt64}, Min: -5, Max: -5},
		{Count: 1<<63 - 1, Sum: api.Wide{Hi: -1, Lo: 2}, Min: -6, Max: 6},
		{Count: 2, Sum: wide.Of(-2), Min: -5, Max: 3},
	}
	for _, v := range facts() {
		l = append(l, One(v))
	}
	return l
}

// wrongs is what may not be known.
func wrongs() []api.Agg {
	return []api.Agg{
		{Over: true},
		{Sum: wide.Of(1)},
		{Sum: api.Wide{Hi: 1}},
		{Min: 1},
		{Min: -1},
		{Max: 1},
		{Max: -1},
		{Min: 1, Max: 1},
		{Count: 1, Min: 2, Max: 1},
		{Count: 1, Min: math.MaxInt64, Max: math.MinInt64},
		{Count: most, Over: true, Min: 0, Max: -1},
		{Count: 1, Over: true},
		{Count: most - 1, Over: true},
		{Count: 1 << 63, Over: true, Min: 1, Max: 2},
	}
}

func TestP2_1One(t *testing.T) {
	for _, v := range facts() {
		want := api.Agg{Count: 1, Sum: wide.Of(v), Min: v, Max: v}
		if got := One(v); got != want {
			t.Errorf("One(%d) = %v, want %v", v, got, want)
		}
	}
}

func TestP2_1Merge(t *testing.T) {
	top := api.Wide{Hi: math.MaxInt64, Lo: most}
	for _, c := range []struct {
		name       string
		a, b, want api.Agg
	}{
		{"two facts", One(3), One(-5), api.Agg{Count: 2, Sum: wide.Of(-2), Min: -5, Max: 3}},
		{"two facts turned", One(-5), One(3), api.Agg{Count: 2, Sum: wide.Of(-2), Min: -5, Max: 3}},
		{"just the greatest Count", api.Agg{Count: most - 1, Min: 1, Max: 1}, One(1), api.Agg{Count: most, Sum: wide.Of(1), Min: 1, Max: 1}},
		{"one more", api.Agg{Count: most, Min: 1, Max: 1}, One(1), api.Agg{Count: most, Over: true, Sum: wide.Of(1), Min: 1, Max: 1}},
		{"halves", api.Agg{Count: 1 << 63, Min: 1, Max: 2}, api.Agg{Count: 1 << 63, Min: 0, Max: 1}, api.Agg{Count: most, Over: true, Min: 0, Max: 2}},
		{"less than halves", api.Agg{Count: 1 << 63}, api.Agg{Count: 1<<63 - 1}, api.Agg{Count: most}},
		{"both the greatest", api.Agg{Count: most, Over: true}, api.Agg{Count: most, Over: true}, api.Agg{Count: most, Over: true}},
		{"the sum modulo 2^128", api.Agg{Count: 1, Sum: top, Min: 1, Max: 1}, One(1), api.Agg{Count: 2, Sum: api.Wide{Hi: math.MinInt64}, Min: 1, Max: 1}},
		{"a carry within the sum", One(math.MinInt64), One(math.MinInt64), api.Agg{Count: 2, Sum: api.Wide{Hi: -1}, Min: math.MinInt64, Max: math.MinInt64}},
		{"the ends", One(math.MinInt64), One(math.MaxInt64), api.Agg{Count: 2, Sum: wide.Of(-1), Min: math.MinInt64, Max: math.MaxInt64}},
		{"nothing and nothing", api.Agg{}, api.Agg{}, api.Agg{}},
		// What may not be known is merged by the same words.
		{"b as it is", api.Agg{Max: 4}, api.Agg{Count: 1, Min: 2, Max: 1}, api.Agg{Count: 1, Min: 2, Max: 1}},
		{"a as it is", api.Agg{Count: 1, Over: true, Min: 2, Max: 1}, api.Agg{Max: 4}, api.Agg{Count: 1, Over: true, Min: 2, Max: 1}},
		{"b ahead of a, if both have none", api.Agg{Max: 4}, api.Agg{Min: 9}, api.Agg{Min: 9}},
		{"an Over of few", api.Agg{Count: 1, Over: true}, One(0), api.Agg{Count: 2, Over: true}},
		{"an Over of few, turned", One(0), api.Agg{Count: 1, Over: true}, api.Agg{Count: 2, Over: true}},
	} {
		if got := Merge(c.a, c.b); got != c.want {
			t.Errorf("%s: Merge(%v, %v) = %v, want %v", c.name, c.a, c.b, got, c.want)
		}
	}
}

func TestP2_1Right(t *testing.T) {
	for _, a := range rights() {
		if !Right(a) {
			t.Errorf("Right(%v) is false", a)
		}
	}
	for _, a := range wrongs() {
		if Right(a) {
			t.Errorf("Right(%v) is true", a)
		}
	}
}

func TestP2_1Many(t *testing.T) {
	if got := Many(nil); got != (api.Agg{}) {
		t.Errorf("Many(nil) = %v", got)
	}
	if got := Many([]int64{}); got != (api.Agg{}) {
		t.Errorf("Many of none = %v", got)
	}
	if got, want := Many([]int64{4}), One(4); got != want {
		t.Errorf("Many of one = %v, want %v", got, want)
	}
	if got, want := Many([]int64{0}), One(0); got != want {
		t.Errorf("Many of 0 = %v, want %v", got, want)
	}
	l := facts()
	kept := slices.Clone(l)
	sum := new(big.Int)
	for _, v := range l {
		sum.Add(sum, big.NewInt(v))
	}
	got := Many(l)
	want := api.Agg{Count: uint64(len(l)), Sum: got.Sum, Min: math.MinInt64, Max: math.MaxInt64}
	if got != want || wide.Print(got.Sum) != sum.String() {
		t.Errorf("Many(%v) = %v, want %v with the sum %v", l, got, want, sum)
	}
	if !slices.Equal(l, kept) {
		t.Errorf("Many changed its list: %v", l)
	}
	// What lies behind a list's length is not read.
	if got, want := Many(l[:2]), Merge(One(3), One(-5)); got != want {
		t.Errorf("Many of a front = %v, want %v", got, want)
	}
}

func TestP2_2Write(t *testing.T) {
	a := api.Agg{
		Count: 0x0102030405060708,
		Sum:   api.Wide{Hi: 0x1112131415161718, Lo: 0x191a1b1c1d1e1f20},
		Min:   -2,
		Max:   0x2122232425262728,
	}
	want := []byte{
		0,
		1, 2, 3, 4, 5, 6, 7, 8,
		0x11, 0x12, 0x13, 0x14, 0x15, 0x16, 0x17, 0x18, 0x19, 0x1a, 0x1b, 0x1c, 0x1d, 0x1e, 0x1f, 0x20,
		255, 255, 255, 255, 255, 255, 255, 254,
		0x21, 0x22, 0x23, 0x24, 0x25, 0x26, 0x27, 0x28,
	}
	if got, e := Write(a); e != api.OK || !bytes.Equal(got, want) {
		t.Errorf("Write(%v) = %v, %v, want %v", a, got, e, want)
	}
	if got, e := Read(want); e != api.OK || got != a {
		t.Errorf("Read(%v) = %v, %v, want %v", want, got, e, a)
	}
	if got, e := Write(api.Agg{}); e != api.OK || !bytes.Equal(got, make([]byte, 41)) {
		t.Errorf("Write of nothing = %v, %v", got, e)
	}
	over := append(bytes.Repeat([]byte{255}, 9), make([]byte, 32)...)
	over[0] = 1
	if got, e := Write(api.Agg{Count: most, Over: true}); e != api.OK || !bytes.Equal(got, over) {
		t.Errorf("Write of an Over = %v, %v, want %v", got, e, over)
	}
	for _, a := range wrongs() {
		if got, e := Write(a); e != api.ErrForm || len(got) != 0 {
			t.Errorf("Write(%v) = %v, %v, want ErrForm", a, got, e)
		}
	}
}

func TestP2_2ReadLengths(t *testing.T) {
	for n := range 90 {
		for _, fill := range []byte{0, 1, 255} {
			b := bytes.Repeat([]byte{fill}, n)
			got, e := Read(b)
			want := e
			if n < 41 {
				want = api.ErrShort
			} else if n > 41 {
				want = api.ErrLong
			}
			if e != want || e != api.OK && got != (api.Agg{}) {
				t.Errorf("Read of %d bytes of %d = %v, %v, want %v", n, fill, got, e, want)
			}
		}
	}
	if got, e := Read(nil); e != api.ErrShort || got != (api.Agg{}) {
		t.Errorf("Read(nil) = %v, %v", got, e)
	}
	// What lies behind a list's length is not read.
	long := make([]byte, 60)
	if got, e := Read(long[:41]); e != api.OK || got != (api.Agg{}) {
		t.Errorf("Read of 41 bytes of more = %v, %v", got, e)
	}
	if _, e := Read(long[:40]); e != api.ErrShort {
		t.Errorf("Read of 40 bytes of more: %v", e)
	}
}

// raw is the bytes of anything, right or not, written apart from the package's own way.
func raw(first byte, a api.Agg) []byte {
	b := []byte{first}
	for _, x := range []uint64{a.Count, uint64(a.Sum.Hi), a.Sum.Lo, uint64(a.Min), uint64(a.Max)} {
		for i := 7; i >= 0; i-- {
			b = append(b, byte(x>>(8*i)))
		}
	}
	return b
}

func TestP2_2ReadForm(t *testing.T) {
	for _, a := range wrongs() {
		first := byte(0)
		if a.Over {
			first = 1
		}
		if got, e := Read(raw(first, a)); e != api.ErrForm || got != (api.Agg{}) {
			t.Errorf("Read of the wrong %v = %v, %v, want ErrForm", a, got, e)
		}
	}
	full := api.Agg{Count: most, Min: 1, Max: 2}
	for first := range 256 {
		got, e := Read(raw(byte(first), full))
		switch {
		case first > 1 && (e != api.ErrForm || got != (api.Agg{})):
			t.Errorf("Read with the first byte %d = %v, %v, want ErrForm", first, got, e)
		case first <= 1 && (e != api.OK || got.Over != (first == 1) || got.Count != most || got.Min != 1 || got.Max != 2):
			t.Errorf("Read with the first byte %d = %v, %v", first, got, e)
		}
	}
}

func TestP2_3Merge(t *testing.T) {
	l := rights()
	for _, a := range l {
		if Merge(a, api.Agg{}) != a || Merge(api.Agg{}, a) != a {
			t.Errorf("what is known of nothing changes %v", a)
		}
		for _, b := range l {
			ab := Merge(a, b)
			if ab != Merge(b, a) {
				t.Fatalf("Merge of %v and %v hangs on the order", a, b)
			}
			if !Right(ab) {
				t.Fatalf("Merge(%v, %v) = %v is not right", a, b, ab)
			}
			for _, c := range l {
				if Merge(ab, c) != Merge(a, Merge(b, c)) {
					t.Fatalf("Merge of %v, %v, %v hangs on how they are put together", a, b, c)
				}
			}
		}
	}
}

func TestP2_4Facts(t *testing.T) {
	l := facts()
	want := Many(l)
	for i := range len(l) + 1 {
		if got := Merge(Many(l[:i]), Many(l[i:])); got != want {
			t.Errorf("parted at %d: %v, want %v", i, got, want)
		}
		if got := Merge(Many(l[i:]), Many(l[:i])); got != want {
			t.Errorf("parted at %d, and turned: %v, want %v", i, got, want)
		}
		for j := i; j <= len(l); j++ {
			if got := Merge(Many(l[i:j]), Merge(Many(l[j:]), Many(l[:i]))); got != want {
				t.Errorf("parted at %d and %d: %v, want %v", i, j, got, want)
			}
		}
		turned := slices.Concat(l[i:], l[:i])
		if got := Many(turned); got != want {
			t.Errorf("Many(%v) = %v, want %v", turned, got, want)
		}
		slices.Reverse(turned)
		if got := Many(turned); got != want {
			t.Errorf("Many(%v) = %v, want %v", turned, got, want)
		}
	}
	sorted := slices.Clone(l)
	slices.Sort(sorted)
	if got := Many(sorted); got != want {
		t.Errorf("Many(%v) = %v, want %v", sorted, got, want)
	}
}

func TestP2_5Over(t *testing.T) {
	over := api.Agg{Count: most, Over: true, Min: 1, Max: 1}
	for _, a := range rights() {
		for _, got := range []api.Agg{Merge(over, a), Merge(a, over)} {
			if !got.Over || got.Count != most {
				t.Errorf("Over with %v = %v", a, got)
			}
		}
	}
	b, e := Write(over)
	if got, f := Read(b); e != api.OK || f != api.OK || got != over {
		t.Errorf("Over, there and back: %v, %v, %v", got, e, f)
	}
}

func TestP2_6ThereAndBack(t *testing.T) {
	l := append(rights(), Many(facts()))
	for _, a := range l {
		b, e := Write(a)
		if e != api.OK || len(b) != 41 {
			t.Fatalf("Write(%v): %d bytes, %v", a, len(b), e)
		}
		got, e := Read(b)
		if e != api.OK || got != a {
			t.Errorf("Read(Write(%v)) = %v, %v", a, got, e)
		}
		if again, _ := Write(got); !bytes.Equal(again, b) {
			t.Errorf("written again: %v, want %v", again, b)
		}
	}
}

// TestP1NewMemory: what is handed out is new memory, what is handed in stays.
func TestP1NewMemory(t *testing.T) {
	first, _ := Write(One(1))
	first[0] = 99
	if second, _ := Write(One(1)); second[0] != 0 {
		t.Errorf("two answers of Write share memory: %v", second)
	}
	in := raw(0, One(-4))
	kept := bytes.Clone(in)
	if got, e := Read(in); e != api.OK || got != One(-4) || !bytes.Equal(in, kept) {
		t.Errorf("Read = %v, %v, and what it was handed is %v", got, e, in)
	}
}

// FuzzRead: any bytes are either written again as they were, or refused; none panics.
func FuzzRead(f *testing.F) {
	f.Add([]byte{})
	f.Add(make([]byte, 41))
	f.Add(raw(1, api.Agg{Count: most}))
	f.Add(raw(2, One(5)))
	f.Fuzz(func(t *testing.T, b []byte) {
		a, e := Read(b)
		if e != api.OK {
			if a != (api.Agg{}) {
				t.Errorf("Read(%v) = %v beside %v", b, a, e)
			}
			return
		}
		if again, e := Write(a); e != api.OK || !bytes.Equal(again, b) {
			t.Errorf("Write(Read(%v)) = %v, %v", b, again, e)
		}
	})
}
