package bloom

import (
	"bytes"
	"hash/crc32"
	"math"
	"math/big"
	"slices"
	"strconv"
	"testing"

	"rickyard/api"
)

// sizes is numbers of digits that a filter may have: the edges, powers of two and others.
func sizes() []int {
	return []int{8, 16, 24, 32, 40, 64, 72, 120, 1000, 4096, 65528, api.MaxBits}
}

// keys is unlike keys: without bytes, short, long, with bytes 0 and 1 at their end, and many ordinary ones.
func keys() [][]byte {
	l := [][]byte{{}, {0}, {1}, {0, 1}, {1, 1}, {255}, bytes.Repeat([]byte{0}, 64), bytes.Repeat([]byte{255}, 300)}
	for i := range 60 {
		l = append(l, []byte("key "+strconv.Itoa(i)))
	}
	return l
}

// plainPlaces is a key's places as the words say, reckoned with numbers that have room for all.
func plainPlaces(key []byte, digits, hashes int) []int {
	table := crc32.MakeTable(crc32.Castagnoli)
	a := uint64(crc32.Checksum(key, table))
	b := uint64(crc32.Checksum(append(slices.Clone(key), 1), table))
	if b%2 == 0 {
		b++
	}
	var l []int
	for i := range hashes {
		l = append(l, int((a+uint64(i)*b)%(1<<32)%uint64(digits)))
	}
	return l
}

// plain is a filter that holds each digit by itself.
type plain struct {
	digits []int
	hashes int
}

func newPlain(digits, hashes int) plain {
	return plain{make([]int, digits), hashes}
}

func (p plain) add(key []byte) {
	for _, at := range plainPlaces(key, len(p.digits), p.hashes) {
		p.digits[at] = 1
	}
}

func (p plain) may(key []byte) bool {
	sum := 0
	for _, at := range plainPlaces(key, len(p.digits), p.hashes) {
		sum += p.digits[at]
	}
	return sum == p.hashes
}

func (p plain) write() []byte {
	out := []byte{byte(p.hashes)}
	for i := 0; i < len(p.digits); i += 8 {
		x := 0
		for j := 7; j >= 0; j-- {
			x = 2*x + p.digits[i+j]
		}
		out = append(out, byte(x))
	}
	return out
}

// made is a filter that may be.
func made(t *testing.T, digits, hashes int) *Filter {
	t.Helper()
	f, e := New(digits, hashes)
	if e != api.OK || f == nil {
		t.Fatalf("New(%d, %d) = %v, %v", digits, hashes, f, e)
	}
	return f
}

// add adds keys to a filter that a call made.
func add(t *testing.T, f *Filter, keys ...[]byte) {
	t.Helper()
	for _, k := range keys {
		if e := f.Add(k); e != api.OK {
			t.Fatalf("Add(%v): %v", k, e)
		}
	}
}

// written is the bytes of a filter that a call made.
func written(t *testing.T, f *Filter) []byte {
	t.Helper()
	b, e := f.Write()
	if e != api.OK {
		t.Fatalf("Write: %v", e)
	}
	return b
}

func TestP7_1New(t *testing.T) {
	hashes := []int{math.MinInt, -256, -1, 0, 1, 2, 6, api.MaxHashes - 1, api.MaxHashes, api.MaxHashes + 1, 255, 256, 257, math.MaxInt}
	digits := []int{math.MinInt, math.MinInt + 1, math.MaxInt - 7, math.MaxInt, 2 * api.MaxBits}
	for d := range 80 {
		digits = append(digits, d-40, api.MaxBits-40+d)
	}
	for _, d := range digits {
		for _, h := range hashes {
			right := d >= 8 && d <= 65536 && d&7 == 0 && h >= 1 && h <= 8
			f, e := New(d, h)
			if right && (e != api.OK || f == nil) || !right && (e != api.ErrArg || f != nil) {
				t.Errorf("New(%d, %d) = %v, %v", d, h, f, e)
			}
			if right && len(written(t, f)) != 1+d/8 {
				t.Errorf("New(%d, %d) has %d bytes", d, h, len(written(t, f)))
			}
		}
	}
}

func TestP7_1NewHasNothing(t *testing.T) {
	for _, d := range sizes() {
		for h := 1; h <= api.MaxHashes; h++ {
			f := made(t, d, h)
			for _, k := range append(keys(), nil) {
				if f.May(k) {
					t.Errorf("New(%d, %d) may have %v", d, h, k)
				}
			}
		}
	}
}

func TestP7_1NoFilter(t *testing.T) {
	for name, f := range map[string]*Filter{"nil": nil, "hand-made": {}, "new": new(Filter)} {
		for _, k := range append(keys(), nil) {
			if e := f.Add(k); e != api.ErrNil {
				t.Errorf("%s: Add: %v", name, e)
			}
			if !f.May(k) {
				t.Errorf("%s: May denies", name)
			}
		}
		if b, e := f.Write(); e != api.ErrNil || len(b) != 0 {
			t.Errorf("%s: Write = %v, %v", name, b, e)
		}
	}
}

// TestP7_1Places: places that were reckoned elsewhere, one by one.
func TestP7_1Places(t *testing.T) {
	for _, c := range []struct {
		key            string
		digits, hashes int
		places         []int
	}{
		{"", 64, 3, []int{0, 19, 38}},
		{"a", 64, 3, []int{48, 17, 50}},
		{"a", 24, 8, []int{0, 9, 10, 19, 4, 5, 14, 15}},
		{"a", 8, 1, []int{0}},
		{"key", 65536, 8, []int{30061, 8452, 52379, 30770, 9161, 53088, 31479, 9870}},
		{"key", 1000, 6, []int{789, 556, 27, 794, 265, 32}},
	} {
		f, want := made(t, c.digits, c.hashes), newPlain(c.digits, c.hashes)
		add(t, f, []byte(c.key))
		for _, at := range c.places {
			want.digits[at] = 1
		}
		if got := written(t, f); !bytes.Equal(got, want.write()) {
			t.Errorf("Add(%q) to %d, %d: %v", c.key, c.digits, c.hashes, got)
		}
	}
}

func TestP7_1AddAndMay(t *testing.T) {
	all := keys()
	for _, d := range sizes() {
		for h := 1; h <= api.MaxHashes; h++ {
			f, want := made(t, d, h), newPlain(d, h)
			for i, k := range all[:30] {
				add(t, f, k)
				want.add(k)
				if got := written(t, f); !bytes.Equal(got, want.write()) {
					t.Fatalf("New(%d, %d) with %d keys: %v", d, h, i+1, got)
				}
			}
			for _, k := range all {
				if f.May(k) != want.may(k) {
					t.Errorf("New(%d, %d): May(%v) = %v", d, h, k, f.May(k))
				}
			}
		}
	}
}

// TestP7_1MayNeedsAll: one digit less at any of a key's places denies it.
func TestP7_1MayNeedsAll(t *testing.T) {
	for _, k := range keys() {
		f := made(t, api.MaxBits, api.MaxHashes)
		add(t, f, k)
		b := written(t, f)
		for _, at := range plainPlaces(k, api.MaxBits, api.MaxHashes) {
			less := slices.Clone(b)
			less[1+at/8] &^= 1 << (at % 8)
			if g, e := Read(less); e != api.OK || g.May(k) {
				t.Errorf("without digit %d %v may be there: %v", at, k, e)
			}
		}
	}
}

// TestP7_1AddOfNil: no bytes are a key, however they are handed in.
func TestP7_1AddOfNil(t *testing.T) {
	f := made(t, 64, 3)
	add(t, f, nil)
	if !f.May(nil) || !f.May([]byte{}) || f.May([]byte{0}) {
		t.Errorf("a key without bytes: %v, %v, %v", f.May(nil), f.May([]byte{}), f.May([]byte{0}))
	}
}

// TestPlacesLeftEarly: no place is told behind the one at which the loop is left.
func TestPlacesLeftEarly(t *testing.T) {
	f := made(t, 1000, 5)
	for left := 1; left <= 5; left++ {
		var got []int
		for at := range f.places([]byte("a")) {
			got = append(got, int(at))
			if len(got) == left {
				break
			}
		}
		if !slices.Equal(got, plainPlaces([]byte("a"), 1000, left)) {
			t.Errorf("left behind %d: %v", left, got)
		}
	}
}

func TestP7_2Write(t *testing.T) {
	for _, d := range sizes() {
		for h := 1; h <= api.MaxHashes; h++ {
			b := written(t, made(t, d, h))
			if len(b) != 1+d/8 || int(b[0]) != h || slices.Max(b[1:]) != 0 {
				t.Errorf("New(%d, %d) is written as %v", d, h, b)
			}
		}
	}
}

// TestP7_2Read: what is read has the digits that the bytes say, the first one lowest.
func TestP7_2Read(t *testing.T) {
	for _, d := range sizes() {
		for h := 1; h <= api.MaxHashes; h++ {
			want := newPlain(d, h)
			for i := 0; i < d; i += 1 + i%3 {
				want.digits[i] = 1
			}
			f, e := Read(want.write())
			if e != api.OK {
				t.Fatalf("Read of %d, %d: %v", d, h, e)
			}
			for _, k := range keys() {
				if f.May(k) != want.may(k) {
					t.Errorf("read of %d, %d: May(%v) = %v", d, h, k, f.May(k))
				}
				add(t, f, k)
				want.add(k)
			}
			if !bytes.Equal(written(t, f), want.write()) {
				t.Errorf("read of %d, %d, and added to: %v", d, h, written(t, f))
			}
		}
	}
}

func TestP7_2ReadFaults(t *testing.T) {
	const most = api.MaxBits/8 + 1
	for _, n := range []int{0, 1, 2, 3, 9, 10, most - 1, most, most + 1, most + 2, 2 * most} {
		for first := range 256 {
			b := make([]byte, n)
			if n > 0 {
				b[0] = byte(first)
			}
			right := n >= 2 && n <= 8193 && first >= 1 && first <= 8
			f, e := Read(b)
			if right && (e != api.OK || f == nil) || !right && (e != api.ErrForm || f != nil) {
				t.Errorf("Read of %d bytes from %d on: %v", n, first, e)
			}
		}
	}
	if f, e := Read(nil); e != api.ErrForm || f != nil {
		t.Errorf("Read(nil): %v", e)
	}
}

// plainFit is how many digits are good, reckoned with numbers that no count leaves.
func plainFit(keys int) int {
	want := new(big.Int).Mul(big.NewInt(int64(keys)), big.NewInt(10))
	d := 8
	for d < 65536 && big.NewInt(int64(d)).Cmp(want) < 0 {
		d += 8
	}
	return d
}

func TestP7_2Fit(t *testing.T) {
	counts := []int{api.MaxBits, 10 * api.MaxBits, math.MaxInt / 10, math.MaxInt/10 + 1, math.MaxInt/8 + 1, math.MaxInt/5 + 1, math.MaxInt - 1, math.MaxInt}
	for k := range 200 {
		counts = append(counts, k, 6400+k)
	}
	for _, k := range counts {
		d, h, e := Fit(k)
		if d != plainFit(k) || h != 6 || e != api.OK {
			t.Errorf("Fit(%d) = %d, %d, %v", k, d, h, e)
		}
		if _, e := New(d, h); e != api.OK {
			t.Errorf("what Fit(%d) tells is no filter's: %v", k, e)
		}
	}
	for _, c := range [][2]int{{0, 8}, {1, 16}, {2, 24}, {3, 32}, {4, 40}, {8, 80}, {6552, 65520}, {6553, 65536}, {6554, 65536}} {
		if d, _, _ := Fit(c[0]); d != c[1] {
			t.Errorf("Fit(%d) = %d", c[0], d)
		}
	}
	for _, k := range []int{-1, -2, -10, math.MinInt, math.MinInt + 1} {
		if d, h, e := Fit(k); d != 0 || h != 0 || e != api.ErrArg {
			t.Errorf("Fit(%d) = %d, %d, %v", k, d, h, e)
		}
	}
}

func TestP7_3NeverDenied(t *testing.T) {
	all := keys()
	for _, d := range sizes() {
		for h := 1; h <= api.MaxHashes; h++ {
			f := made(t, d, h)
			for i, k := range all {
				add(t, f, k)
				for _, there := range all[:i+1] {
					if !f.May(there) {
						t.Fatalf("New(%d, %d) denies %v behind %d others", d, h, there, i)
					}
				}
			}
		}
	}
}

func TestP7_4OrderAndTwice(t *testing.T) {
	all := keys()[:12]
	for _, d := range sizes() {
		f := made(t, d, 4)
		add(t, f, all...)
		want := written(t, f)
		add(t, f, all...)
		if !bytes.Equal(written(t, f), want) {
			t.Errorf("%d digits: what is added twice is not added once", d)
		}
		back := slices.Clone(all)
		slices.Reverse(back)
		for turn := range all {
			g := made(t, d, 4)
			add(t, g, back[turn:]...)
			add(t, g, back[:turn]...)
			add(t, g, back[turn])
			if !bytes.Equal(written(t, g), want) {
				t.Errorf("%d digits: in another order, from %d on: %v", d, turn, written(t, g))
			}
		}
	}
}

func TestP7_5ThereAndBack(t *testing.T) {
	all := keys()
	for _, d := range sizes() {
		for h := 1; h <= api.MaxHashes; h++ {
			f := made(t, d, h)
			for n := range 5 {
				add(t, f, all[n*n])
				b := written(t, f)
				g, e := Read(b)
				if e != api.OK || !bytes.Equal(written(t, g), b) {
					t.Fatalf("New(%d, %d) with %d keys does not come back: %v", d, h, n+1, e)
				}
				for _, k := range all {
					if f.May(k) != g.May(k) {
						t.Errorf("New(%d, %d) with %d keys came back with another answer for %v", d, h, n+1, k)
					}
				}
			}
		}
	}
}

// TestP1NewMemory: what is handed out is new memory, what is handed in stays and is not kept.
func TestP1NewMemory(t *testing.T) {
	room := []byte("abcBEHIND")
	key := room[:3]
	f := made(t, 64, 3)
	add(t, f, key)
	f.May(key)
	if string(room) != "abcBEHIND" {
		t.Errorf("a key is written on: %q", room)
	}
	b := written(t, f)
	want := slices.Clone(b)
	clear(b)
	if !bytes.Equal(written(t, f), want) || !f.May(key) {
		t.Errorf("what Write hands out is the filter's own memory")
	}
	in := append(slices.Clone(want), 77)
	g, e := Read(in[:len(want)])
	if e != api.OK {
		t.Fatalf("Read: %v", e)
	}
	add(t, g, []byte("another"))
	if !bytes.Equal(in[:len(want)], want) || in[len(want)] != 77 {
		t.Errorf("the filter writes on what it was read from: %v", in)
	}
	before := written(t, g)
	clear(in)
	if !bytes.Equal(written(t, g), before) {
		t.Errorf("the filter hangs on what it was read from")
	}
}

// FuzzFilter: any bytes are a filter that is written as they are, or refused; a key that is added to it is there, and the plain filter says the same.
func FuzzFilter(f *testing.F) {
	f.Add([]byte{}, []byte{})
	f.Add([]byte{6, 0, 255, 1}, []byte("key"))
	f.Add([]byte{8, 0}, []byte{1})
	f.Fuzz(func(t *testing.T, b, key []byte) {
		x, e := Read(b)
		if e != api.OK {
			if e != api.ErrForm || x != nil || len(b) >= 2 && len(b) <= 8193 && b[0] >= 1 && b[0] <= 8 {
				t.Errorf("Read(%v) = %v, %v", b, x, e)
			}
			return
		}
		if !bytes.Equal(written(t, x), b) {
			t.Errorf("Read(%v) is written as %v", b, written(t, x))
		}
		want := newPlain(8*(len(b)-1), int(b[0]))
		for i := range want.digits {
			want.digits[i] = int(b[1+i/8] >> (i % 8) & 1)
		}
		if x.May(key) != want.may(key) {
			t.Errorf("of %v May(%v) = %v", b, key, x.May(key))
		}
		add(t, x, key)
		want.add(key)
		if !x.May(key) || !bytes.Equal(written(t, x), want.write()) {
			t.Errorf("%v with %v is %v", b, key, written(t, x))
		}
	})
}
