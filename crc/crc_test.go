package crc

import (
	"bytes"
	"encoding/binary"
	"hash/crc32"
	"math"
	"slices"
	"testing"

	"rickyard/api"
)

// some is n bytes that are made by a rule, unlike for each seed.
func some(n int, seed uint32) []byte {
	b := make([]byte, n)
	x := seed
	for i := range b {
		x = x*1664525 + 1013904223
		b[i] = byte(x >> 24)
	}
	return b
}

// texts is bytes of many lengths: ordinary ones, those at the edges of a frame, and those of one digit alone.
func texts() [][]byte {
	l := [][]byte{nil, {}, []byte("123456789"), []byte("a"), []byte("ab"), make([]byte, 40), bytes.Repeat([]byte{255}, 40)}
	for n := range 70 {
		l = append(l, some(n, uint32(n)))
	}
	for i := range 8 {
		l = append(l, []byte{1 << i}, []byte{0, 1 << i, 0})
	}
	return append(l, some(255, 1), some(256, 2), some(4096, 3), some(api.MaxFrame-1, 4), some(api.MaxFrame, 5))
}

// plainSum is the sum as the library has it.
func plainSum(b []byte) uint32 {
	return crc32.Checksum(b, crc32.MakeTable(crc32.Castagnoli))
}

// plainFrame is a frame, put together by the library's means, whatever its length says.
func plainFrame(length uint32, data []byte) []byte {
	b := binary.LittleEndian.AppendUint32(nil, length)
	b = append(b, data...)
	return binary.LittleEndian.AppendUint32(b, plainSum(b))
}

// frame is a frame of data that has one.
func frame(t *testing.T, data []byte) []byte {
	t.Helper()
	b, e := Frame(data)
	if e != api.OK {
		t.Fatalf("Frame of %d bytes: %v", len(data), e)
	}
	return b
}

// row is the frames of all data, one behind the other.
func row(t *testing.T, list ...[]byte) []byte {
	t.Helper()
	var b []byte
	for _, data := range list {
		b = append(b, frame(t, data)...)
	}
	return b
}

func TestP5_1Sum(t *testing.T) {
	for _, c := range []struct {
		b    string
		want uint32
	}{
		{"", 0}, {"123456789", 3808858755}, {"a", 0xc1d04330}, {"\x00", 0x527d5351},
		{string(make([]byte, 32)), 0x8a9136aa}, {string(bytes.Repeat([]byte{255}, 32)), 0x62a8ab43},
	} {
		if got := Sum([]byte(c.b)); got != c.want {
			t.Errorf("Sum(%q) = %d, want %d", c.b, got, c.want)
		}
	}
	for _, b := range texts() {
		if got, want := Sum(b), plainSum(b); got != want {
			t.Errorf("Sum of %d bytes = %d, want %d", len(b), got, want)
		}
	}
}

func TestP5_1More(t *testing.T) {
	table := crc32.MakeTable(crc32.Castagnoli)
	for _, sum := range []uint32{0, 1, 3808858755, 1 << 31, math.MaxUint32} {
		for _, b := range texts() {
			if got, want := More(sum, b), crc32.Update(sum, table, b); got != want {
				t.Errorf("More(%d) of %d bytes = %d, want %d", sum, len(b), got, want)
			}
		}
		if got := More(sum, nil); got != sum {
			t.Errorf("More(%d, nil) = %d", sum, got)
		}
	}
}

func TestP5_2Frame(t *testing.T) {
	for _, data := range texts() {
		got, e := Frame(data)
		if e != api.OK || !bytes.Equal(got, plainFrame(uint32(len(data)), data)) {
			t.Errorf("Frame of %d bytes is another one: %v", len(data), e)
		}
	}
	if got := frame(t, nil); len(got) != 8 {
		t.Errorf("Frame(nil) has %d bytes, want 8", len(got))
	}
	if got := frame(t, make([]byte, 0x0102)); !bytes.Equal(got[:4], []byte{2, 1, 0, 0}) {
		t.Errorf("the length of a frame: %v", got[:4])
	}
	for _, n := range []int{api.MaxFrame + 1, api.MaxFrame + 2, 2 * api.MaxFrame, 1 << 20} {
		if got, e := Frame(make([]byte, n)); e != api.ErrLong || len(got) != 0 {
			t.Errorf("Frame of %d bytes = %d bytes, %v, want ErrLong", n, len(got), e)
		}
	}
}

func TestP5_2Next(t *testing.T) {
	for _, data := range texts() {
		for _, tail := range [][]byte{nil, {0}, {255, 255, 255, 255, 255}, frame(t, []byte("behind"))} {
			b := append(plainFrame(uint32(len(data)), data), tail...)
			if got, n, e := Next(b); e != api.OK || n != len(data)+8 || !bytes.Equal(got, data) {
				t.Errorf("Next of a frame of %d bytes and %d behind = %d bytes, %d, %v", len(data), len(tail), len(got), n, e)
			}
		}
	}
}

func TestP5_2NextFaults(t *testing.T) {
	whole := frame(t, []byte("abc"))
	turned := bytes.Clone(whole)
	turned[5] ^= 1
	great := frame(t, make([]byte, api.MaxFrame))
	for _, c := range []struct {
		name string
		b    []byte
		want api.Errno
	}{
		{"nothing", nil, api.ErrShort}, {"empty", []byte{}, api.ErrShort}, {"one byte", []byte{0}, api.ErrShort},
		{"three bytes", []byte{255, 255, 255}, api.ErrShort}, {"a length of 0 alone", make([]byte, 4), api.ErrShort}, {"seven bytes", make([]byte, 7), api.ErrShort},
		{"a length of 65536 alone", []byte{0, 0, 1, 0}, api.ErrLong}, {"the greatest length", bytes.Repeat([]byte{255}, 4), api.ErrLong},
		{"a length of 2^31", []byte{0, 0, 0, 128}, api.ErrLong}, {"a length of 2^24", []byte{0, 0, 0, 1, 0, 0, 0, 0, 0}, api.ErrLong},
		{"the greatest length but 7", []byte{249, 255, 255, 255, 0, 0, 0, 0}, api.ErrLong},
		{"a whole frame one too long", plainFrame(api.MaxFrame+1, make([]byte, api.MaxFrame+1)), api.ErrLong},
		{"a length of 65535 alone", []byte{255, 255, 0, 0}, api.ErrShort}, {"the greatest frame, cut", great[:len(great)-1], api.ErrShort},
		{"turned and cut", turned[:len(turned)-1], api.ErrShort}, {"cut in an array that has the rest", whole[:len(whole)-1], api.ErrShort},
		{"turned", turned, api.ErrSum}, {"turned, with more behind", append(bytes.Clone(turned), whole...), api.ErrSum}, {"all digits 0", make([]byte, 8), api.ErrSum},
		{"the length not summed", append([]byte{1, 0, 0, 0, 'a'}, binary.LittleEndian.AppendUint32(nil, plainSum([]byte("a")))...), api.ErrSum},
		{"the greatest byte of the sum first", append([]byte{1, 0, 0, 0, 'a'}, binary.BigEndian.AppendUint32(nil, plainSum([]byte{1, 0, 0, 0, 'a'}))...), api.ErrSum},
		{"a length that is another one", plainFrame(2, []byte("abc")), api.ErrSum}, {"a length that is one more", plainFrame(4, []byte("abc")), api.ErrShort},
	} {
		if data, n, e := Next(c.b); e != c.want || len(data) != 0 || n != 0 {
			t.Errorf("%s: Next = %v, %d, %v, want %v", c.name, data, n, e, c.want)
		}
		if list, n := All(c.b); len(list) != 0 || n != 0 {
			t.Errorf("%s: All = %d frames, %d bytes, want none", c.name, len(list), n)
		}
	}
}

func TestP5_3All(t *testing.T) {
	list := texts()
	b := row(t, list...)
	for _, tail := range [][]byte{nil, {}, {1}, {255, 255, 255, 255}, make([]byte, 8), frame(t, []byte("cut"))[:10]} {
		got, n := All(append(bytes.Clone(b), tail...))
		if n != len(b) || !slices.EqualFunc(got, list, bytes.Equal) {
			t.Errorf("All of %d frames and %v = %d frames, %d bytes, want %d", len(list), tail, len(got), n, len(b))
		}
	}
	// Behind what is no frame none is looked for.
	broken := append(row(t, []byte("one"), []byte("two")), append([]byte{9}, row(t, []byte("three"))...)...)
	if got, n := All(broken); n != 22 || len(got) != 2 {
		t.Errorf("All of two frames, a byte and a frame = %q, %d", got, n)
	}
	for _, none := range [][]byte{nil, {}} {
		if got, n := All(none); len(got) != 0 || n != 0 {
			t.Errorf("All of nothing = %v, %d", got, n)
		}
	}
}

func TestP5_4PieceByPiece(t *testing.T) {
	for _, b := range [][]byte{[]byte("123456789"), some(80, 9), make([]byte, 20)} {
		want := Sum(b)
		single := Sum(nil)
		for i := range b {
			single = More(single, b[i:i+1])
		}
		if single != want {
			t.Errorf("byte by byte the sum of %v is %d, at once %d", b, single, want)
		}
		for i := range len(b) + 1 {
			for j := i; j <= len(b); j++ {
				if got := More(More(Sum(b[:i]), b[i:j]), b[j:]); got != want {
					t.Fatalf("in pieces cut at %d and %d the sum of %v is %d, at once %d", i, j, b, got, want)
				}
			}
		}
	}
}

// turn turns those of 32 digits in a row that pattern has as 1, from the digit at on: a byte's lowest one is its first.
func turn(b []byte, at int, pattern uint32) {
	for i := range 32 {
		if pattern>>i&1 == 1 {
			b[(at+i)/8] ^= 1 << ((at + i) % 8)
		}
	}
}

// patterns is digits to be turned: all one, two and three of them, all in a row, and many others.
func patterns() []uint32 {
	var l []uint32
	for i := range 32 {
		l = append(l, math.MaxUint32>>i, 2197175160>>i, 2197175160<<i)
		for j := range 32 {
			for k := range 32 {
				l = append(l, 1<<i|1<<j|1<<k)
			}
		}
	}
	x := uint32(7)
	for range 2000 {
		x = x*1664525 + 1013904223
		l = append(l, x, x^x>>16)
	}
	slices.Sort(l)
	l = slices.Compact(l)
	return slices.DeleteFunc(l, func(p uint32) bool { return p == 0 })
}

func TestP5_5Turned(t *testing.T) {
	list := patterns()
	for _, data := range [][]byte{nil, {0}, []byte("ab"), some(9, 1), make([]byte, 12)} {
		b := frame(t, data)
		for at := 32; at+32 <= 8*len(b); at++ {
			for _, p := range list {
				turn(b, at, p)
				if got, n, e := Next(b); e != api.ErrSum || len(got) != 0 || n != 0 {
					t.Fatalf("the frame of %v, turned from digit %d on by %x: %v, %d, %v", data, at, p, got, n, e)
				}
				turn(b, at, p)
			}
		}
	}
}

func TestP5_5TurnedInARow(t *testing.T) {
	list := [][]byte{[]byte("first"), some(20, 3), []byte("last")}
	whole := row(t, list...)
	second := len(frame(t, list[0]))
	for at := 8 * (second + 4); at+32 <= 8*(second+28); at++ {
		b := bytes.Clone(whole)
		turn(b, at, 0x80000001)
		if got, n := All(b); len(got) != 1 || n != second || !bytes.Equal(got[0], list[0]) {
			t.Fatalf("turned at digit %d of the second frame: %d frames, %d bytes", at, len(got), n)
		}
	}
}

func TestP5_6CutAnywhere(t *testing.T) {
	list := [][]byte{[]byte("ab"), nil, some(30, 8), {0}, make([]byte, 8), nil, nil, some(300, 5), {255, 255, 255, 255}}
	whole := row(t, list...)
	ends := []int{0}
	for _, data := range list {
		ends = append(ends, ends[len(ends)-1]+len(data)+8)
	}
	count := 0
	for cut := range len(whole) + 1 {
		if count < len(list) && ends[count+1] == cut {
			count++
		}
		got, n := All(whole[:cut])
		if n != ends[count] || !slices.EqualFunc(got, list[:count], bytes.Equal) {
			t.Fatalf("cut at %d: %d frames, %d bytes, want %d, %d", cut, len(got), n, count, ends[count])
		}
	}
	if count != len(list) {
		t.Errorf("%d frames are whole, want %d", count, len(list))
	}
}

func TestP5_6OneByOne(t *testing.T) {
	list := texts()
	b := row(t, list...)
	for _, data := range list {
		got, n, e := Next(b)
		if e != api.OK || !bytes.Equal(got, data) || n != len(data)+8 {
			t.Fatalf("Next = %d bytes, %d, %v, want %d bytes", len(got), n, e, len(data))
		}
		b = b[n:]
	}
	if len(b) != 0 {
		t.Errorf("%d bytes are left", len(b))
	}
}

// TestFramesLeftEarly: the frames may be left at any of them, and gone through again from the first on.
func TestFramesLeftEarly(t *testing.T) {
	all := frames(row(t, []byte("a"), []byte("b"), []byte("c")))
	for stop := range 4 {
		var got []byte
		for data, n := range all {
			if len(got) == stop {
				break
			}
			got = append(got, data...)
			if n != 9 {
				t.Errorf("a frame takes %d bytes, want 9", n)
			}
		}
		if string(got) != "abc"[:stop] {
			t.Errorf("left behind %d frames: %q", stop, got)
		}
	}
}

// TestP1NewMemory: what is handed out is new memory, what is handed in stays.
func TestP1NewMemory(t *testing.T) {
	room := []byte("data and more")
	data := room[:4]
	b := frame(t, data)
	if string(room) != "data and more" {
		t.Errorf("Frame changed what it was handed: %q", room)
	}
	clear(room)
	if !bytes.Equal(b, plainFrame(4, []byte("data"))) {
		t.Errorf("a frame hangs on the data it was made of: %v", b)
	}
	in := append(bytes.Clone(b), b...)
	kept := bytes.Clone(in)
	one, _, _ := Next(in)
	list, _ := All(in)
	if !bytes.Equal(in, kept) {
		t.Errorf("reading changed what was handed in: %v", in)
	}
	clear(in)
	_ = append(list[0], "over what follows"...)
	clear(list[0])
	if string(one) != "data" || string(list[1]) != "data" {
		t.Errorf("data shares memory: %q, %q", one, list[1])
	}
}

// FuzzReads: any bytes are either written again as they were, or refused; none panics.
func FuzzReads(f *testing.F) {
	f.Add([]byte{})
	f.Add([]byte{0, 0, 1, 0, 5})
	f.Add(plainFrame(2, []byte("ab")))
	f.Add(append(plainFrame(0, nil), plainFrame(3, []byte("abc"))...))
	f.Fuzz(func(t *testing.T, b []byte) {
		data, n, e := Next(b)
		if e != api.OK && (len(data) != 0 || n != 0) || e == api.OK && !bytes.Equal(frame(t, data), b[:n]) {
			t.Errorf("Next(%v) = %v, %d, %v", b, data, n, e)
		}
		list, n := All(b)
		if !bytes.Equal(row(t, list...), b[:n]) {
			t.Errorf("All(%v) = %v, %d", b, list, n)
		}
		if _, _, e := Next(b[n:]); e == api.OK {
			t.Errorf("All(%v) left a frame", b)
		}
	})
}
