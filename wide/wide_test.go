package wide

import (
	"bytes"
	"math"
	"math/big"
	"strings"
	"testing"

	"rickyard/api"
)

// The tests hold the package against math/big, which reckons without a bound.

// least and greatest are the ends of what can be told.
func least() api.Wide    { return api.Wide{Hi: math.MinInt64} }
func greatest() api.Wide { return api.Wide{Hi: math.MaxInt64, Lo: math.MaxUint64} }

// dice gives numbers that look like any, but are the same in each run.
type dice uint64

func (d *dice) next() uint64 {
	*d = *d*6364136223846793005 + 1442695040888963407
	x := uint64(*d)
	return (x ^ x>>31) * 0x9e3779b97f4a7c15
}

// smalls is numbers of 64 digits with sign, edges first.
func smalls() []int64 {
	l := []int64{0, 1, -1, 2, -2, 3, -3, 9, 10, -10, 1<<32 - 1, 1 << 32, -1 << 32, math.MaxInt64, math.MaxInt64 - 1, math.MinInt64, math.MinInt64 + 1}
	d := dice(1)
	for range 20 {
		l = append(l, int64(d.next())>>(d.next()%64))
	}
	return l
}

// counts is numbers of 64 digits without sign, edges first.
func counts() []uint64 {
	l := []uint64{0, 1, 2, 3, 10, 1<<32 - 1, 1 << 32, 1<<63 - 1, 1 << 63, 1<<63 + 1, math.MaxUint64 - 1, math.MaxUint64}
	d := dice(2)
	for range 20 {
		l = append(l, d.next()>>(d.next()%64))
	}
	return l
}

// wides is numbers, edges first: those around 0, around 2^64 and at both ends.
func wides() []api.Wide {
	var l []api.Wide
	for _, hi := range []int64{0, 1, -1, 2, -2, 1 << 62, math.MaxInt64, math.MinInt64, math.MinInt64 + 1} {
		for _, lo := range []uint64{0, 1, 2, 9, 10, 1<<63 - 1, 1 << 63, math.MaxUint64 - 1, math.MaxUint64} {
			l = append(l, api.Wide{Hi: hi, Lo: lo})
		}
	}
	d := dice(3)
	for range 40 {
		l = append(l, api.Wide{Hi: int64(d.next()) >> (d.next() % 64), Lo: d.next() >> (d.next() % 64)})
	}
	return l
}

func powerOfTwo(n uint) *big.Int { return new(big.Int).Lsh(big.NewInt(1), n) }

func bigOf(a api.Wide) *big.Int {
	x := new(big.Int).Mul(big.NewInt(a.Hi), powerOfTwo(64))
	return x.Add(x, new(big.Int).SetUint64(a.Lo))
}

// wideOf is the number that stands for x, modulo 2^128.
func wideOf(x *big.Int) api.Wide {
	m := new(big.Int).Mod(x, powerOfTwo(128))
	lo := new(big.Int).Mod(m, powerOfTwo(64)).Uint64()
	hi := new(big.Int).Rsh(m, 64).Uint64()
	return api.Wide{Hi: int64(hi), Lo: lo}
}

func TestP1_1Of(t *testing.T) {
	for _, v := range smalls() {
		if got := Of(v); got != wideOf(big.NewInt(v)) {
			t.Errorf("Of(%d) = %v", v, got)
		}
	}
}

func TestP1_1Add(t *testing.T) {
	for _, a := range wides() {
		for _, b := range wides() {
			want := wideOf(new(big.Int).Add(bigOf(a), bigOf(b)))
			if got := Add(a, b); got != want {
				t.Fatalf("Add(%v, %v) = %v, want %v", a, b, got, want)
			}
		}
	}
	if got := Add(greatest(), Of(1)); got != least() {
		t.Errorf("the greatest and 1 = %v, want the least", got)
	}
}

func TestP1_1Minus(t *testing.T) {
	for _, a := range wides() {
		if got, want := Minus(a), wideOf(new(big.Int).Neg(bigOf(a))); got != want {
			t.Errorf("Minus(%v) = %v, want %v", a, got, want)
		}
	}
	if got := Minus(least()); got != least() {
		t.Errorf("Minus of the least = %v, want itself", got)
	}
}

func TestP1_1Times(t *testing.T) {
	for _, v := range smalls() {
		for _, n := range counts() {
			want := new(big.Int).Mul(big.NewInt(v), new(big.Int).SetUint64(n))
			if got := Times(v, n); bigOf(got).Cmp(want) != 0 {
				t.Errorf("Times(%d, %d) = %v, want %v", v, n, got, want)
			}
		}
	}
}

func TestP1_2Cmp(t *testing.T) {
	for _, a := range wides() {
		for _, b := range wides() {
			if got, want := Cmp(a, b), bigOf(a).Cmp(bigOf(b)); got != want {
				t.Fatalf("Cmp(%v, %v) = %d, want %d", a, b, got, want)
			}
		}
	}
}

func TestP1_3Print(t *testing.T) {
	for _, a := range wides() {
		if got, want := Print(a), bigOf(a).String(); got != want {
			t.Errorf("Print(%v) = %q, want %q", a, got, want)
		}
	}
	for _, c := range []struct {
		a    api.Wide
		want string
	}{
		{api.Wide{}, "0"},
		{Times(-3, 5), "-15"},
		{api.Wide{Hi: 1}, "18446744073709551616"},
		{least(), "-170141183460469231731687303715884105728"},
		{greatest(), "170141183460469231731687303715884105727"},
	} {
		if got := Print(c.a); got != c.want {
			t.Errorf("Print(%v) = %q, want %q", c.a, got, c.want)
		}
	}
}

func TestP1_3ParseNumbers(t *testing.T) {
	for _, s := range []string{
		"0", "1", "-1", "9", "10", "-10", "100", "18446744073709551615", "18446744073709551616", "-18446744073709551616",
		"170141183460469231731687303715884105727", "-170141183460469231731687303715884105728",
		"99999999999999999999999999999999999999", "-99999999999999999999999999999999999999",
	} {
		want, _ := new(big.Int).SetString(s, 10)
		if got, e := Parse(s); e != api.OK || bigOf(got).Cmp(want) != 0 {
			t.Errorf("Parse(%q) = %v, %v", s, got, e)
		}
	}
}

func TestP1_3ParseForm(t *testing.T) {
	far := strings.Repeat("9", 60)
	for _, s := range []string{
		"", "-", "--", "--1", "1-", "-1-", "00", "01", "-0", "-00", "-01", "0-", "0x1", "1x", "x", "+", "+1", "+0", " 1", "1 ", "-1 ", "- 1",
		"1.", "1e3", "1_0", "1,0", "1\n", "\x00", "1\x00", "/", ":", "1/", "1:", "\xff", "1\xff", "١", "１", "−1",
		// The form is asked ahead of the size.
		far + "x", "0" + far, "-0" + far, far + "-", "+" + far,
	} {
		if got, e := Parse(s); e != api.ErrForm || got != (api.Wide{}) {
			t.Errorf("Parse(%q) = %v, %v, want ErrForm", s, got, e)
		}
	}
}

func TestP1_3ParseWide(t *testing.T) {
	top, step := powerOfTwo(127), powerOfTwo(128)
	beyond := []string{
		top.String(), "-" + new(big.Int).Add(top, big.NewInt(1)).String(),
		strings.Repeat("9", 39), "-" + strings.Repeat("9", 39), "1" + strings.Repeat("0", 39), "-1" + strings.Repeat("0", 39),
		strings.Repeat("9", 1000), "-" + strings.Repeat("9", 1000), "1" + strings.Repeat("0", 5000),
	}
	// Multiples of 2^128 and what is near them, which would seem small to who only looks at the lower digits.
	for i := int64(1); i < 40; i++ {
		x := new(big.Int).Mul(step, big.NewInt(i))
		for d := int64(-12); d <= 12; d++ {
			s := new(big.Int).Add(x, big.NewInt(d)).String()
			beyond = append(beyond, s, "-"+s)
		}
	}
	for _, s := range beyond {
		if got, e := Parse(s); e != api.ErrWide || got != (api.Wide{}) {
			t.Errorf("Parse(%q) = %v, %v, want ErrWide", s, got, e)
		}
	}
}

func TestP1_4Write(t *testing.T) {
	for _, c := range []struct {
		a    api.Wide
		want []byte
	}{
		{api.Wide{Hi: 0x0102030405060708, Lo: 0x090a0b0c0d0e0f10}, []byte{1, 2, 3, 4, 5, 6, 7, 8, 9, 10, 11, 12, 13, 14, 15, 16}},
		{Of(-1), bytes.Repeat([]byte{255}, 16)},
		{Of(0), make([]byte, 16)},
		{least(), append([]byte{128}, make([]byte, 15)...)},
		{greatest(), append([]byte{127}, bytes.Repeat([]byte{255}, 15)...)},
	} {
		if got := Write(c.a); !bytes.Equal(got, c.want) {
			t.Errorf("Write(%v) = %v, want %v", c.a, got, c.want)
		}
		if got, e := Read(c.want); e != api.OK || got != c.a {
			t.Errorf("Read(%v) = %v, %v, want %v", c.want, got, e, c.a)
		}
	}
}

func TestP1_4ReadLengths(t *testing.T) {
	for n := range 40 {
		b := bytes.Repeat([]byte{1}, n)
		want := api.OK
		if n < 16 {
			want = api.ErrShort
		} else if n > 16 {
			want = api.ErrLong
		}
		got, e := Read(b)
		if e != want || e != api.OK && got != (api.Wide{}) {
			t.Errorf("Read of %d bytes = %v, %v, want %v", n, got, e, want)
		}
	}
	if got, e := Read(nil); e != api.ErrShort || got != (api.Wide{}) {
		t.Errorf("Read(nil) = %v, %v", got, e)
	}
	// What lies behind a list's length is not read.
	long := append(Write(Of(7)), 1, 2, 3)
	if got, e := Read(long[:16]); e != api.OK || got != Of(7) {
		t.Errorf("Read of sixteen bytes of more = %v, %v", got, e)
	}
	if _, e := Read(long[:15]); e != api.ErrShort {
		t.Errorf("Read of fifteen bytes of more: %v", e)
	}
}

func TestP1_5Order(t *testing.T) {
	l := wides()
	for i, a := range l {
		b, c := l[(i*7+3)%len(l)], l[(i*11+5)%len(l)]
		if Add(a, b) != Add(b, a) {
			t.Errorf("%v and %v hang on their order", a, b)
		}
		if Add(Add(a, b), c) != Add(a, Add(b, c)) {
			t.Errorf("%v, %v, %v hang on how they are put together", a, b, c)
		}
		if Add(Add(a, b), Minus(b)) != a {
			t.Errorf("%v is not taken away from %v by its opposite", b, a)
		}
		if Add(a, Of(0)) != a || Add(a, Minus(a)) != Of(0) {
			t.Errorf("%v and nothing, or its opposite", a)
		}
	}
}

func TestP1_6Times(t *testing.T) {
	for _, v := range smalls() {
		sum := Of(0)
		for n := range uint64(300) {
			if got := Times(v, n); got != sum {
				t.Fatalf("Times(%d, %d) = %v, want %v", v, n, got, sum)
			}
			sum = Add(sum, Of(v))
		}
		for _, n := range counts() {
			if n > 0 && Times(v, n) != Add(Times(v, n-1), Of(v)) {
				t.Errorf("Times(%d, %d) is not one more than that of one less", v, n)
			}
		}
	}
}

func TestP1_7ThereAndBack(t *testing.T) {
	for _, a := range wides() {
		if got, e := Parse(Print(a)); e != api.OK || got != a {
			t.Errorf("Parse(Print(%v)) = %v, %v", a, got, e)
		}
		if got, e := Read(Write(a)); e != api.OK || got != a {
			t.Errorf("Read(Write(%v)) = %v, %v", a, got, e)
		}
	}
	// The other way round: what is read is written as it was.
	for _, s := range []string{"0", "-1", "5", "10", "-1000000000000000000000", "170141183460469231731687303715884105727"} {
		if a, e := Parse(s); e != api.OK || Print(a) != s {
			t.Errorf("Print(Parse(%q)) = %q, %v", s, Print(a), e)
		}
	}
	d := dice(4)
	for range 50 {
		var b [16]byte
		for i := range b {
			b[i] = byte(d.next() >> 40)
		}
		if a, e := Read(b[:]); e != api.OK || !bytes.Equal(Write(a), b[:]) {
			t.Errorf("Write(Read(%v)) = %v, %v", b, Write(a), e)
		}
	}
}

func TestP1_7OrderOfBytes(t *testing.T) {
	turned := func(a api.Wide) []byte {
		b := Write(a)
		b[0] ^= 128
		return b
	}
	for _, a := range wides() {
		for _, b := range wides() {
			if got, want := bytes.Compare(turned(a), turned(b)), Cmp(a, b); got != want {
				t.Fatalf("bytes of %v and %v: %d, want %d", a, b, got, want)
			}
		}
	}
}

func TestP1_8Exact(t *testing.T) {
	// 2^63 equal numbers are added by doubling, the least and the greatest ones among them.
	for _, v := range smalls() {
		sum := Of(v)
		for range 63 {
			sum = Add(sum, sum)
		}
		want := new(big.Int).Lsh(big.NewInt(v), 63)
		if bigOf(sum).Cmp(want) != 0 || Times(v, 1<<63) != sum {
			t.Errorf("2^63 times %d = %s, want %v", v, Print(sum), want)
		}
	}
	sum, want := Of(0), new(big.Int)
	for range 50 {
		for _, v := range smalls() {
			sum = Add(sum, Of(v))
			want.Add(want, big.NewInt(v))
			if bigOf(sum).Cmp(want) != 0 {
				t.Fatalf("the sum is %s, want %v", Print(sum), want)
			}
		}
	}
}

// TestP1NewMemory: what is handed out is new memory, what is handed in stays.
func TestP1NewMemory(t *testing.T) {
	a := api.Wide{Hi: 5, Lo: 6}
	first := Write(a)
	first[0] = 99
	if second := Write(a); second[0] != 0 {
		t.Errorf("two answers of Write share memory: %v", second)
	}
	in := Write(a)
	kept := bytes.Clone(in)
	if _, e := Read(in); e != api.OK || !bytes.Equal(in, kept) {
		t.Errorf("Read changed what it was handed: %v, %v", in, e)
	}
}

// FuzzParse: any text is either told again as it was, or refused; none panics.
func FuzzParse(f *testing.F) {
	for _, s := range []string{"", "-", "0", "-0", "12", "-170141183460469231731687303715884105728", "\xff9", "9x"} {
		f.Add(s)
	}
	f.Fuzz(func(t *testing.T, s string) {
		a, e := Parse(s)
		switch e {
		case api.OK:
			if Print(a) != s {
				t.Errorf("Print(Parse(%q)) = %q", s, Print(a))
			}
		case api.ErrForm, api.ErrWide:
			if a != (api.Wide{}) {
				t.Errorf("Parse(%q) = %v beside %v", s, a, e)
			}
		default:
			t.Errorf("Parse(%q): %v", s, e)
		}
	})
}
