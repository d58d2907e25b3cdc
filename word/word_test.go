package word

import (
	"bytes"
	"math"
	"testing"
)

func TestWrite(t *testing.T) {
	for _, c := range []struct {
		numbers []uint64
		want    []byte
	}{
		{nil, nil},
		{[]uint64{0}, make([]byte, 8)},
		{[]uint64{0x0102030405060708}, []byte{1, 2, 3, 4, 5, 6, 7, 8}},
		{[]uint64{1, math.MaxUint64}, append([]byte{0, 0, 0, 0, 0, 0, 0, 1}, bytes.Repeat([]byte{255}, 8)...)},
	} {
		if got := Write(c.numbers...); !bytes.Equal(got, c.want) {
			t.Errorf("Write(%v) = %v, want %v", c.numbers, got, c.want)
		}
	}
}

func TestRead(t *testing.T) {
	for _, n := range []uint64{0, 1, 255, 256, 1 << 63, math.MaxUint64, 0x0102030405060708} {
		if got := Read(Write(n)); got != n {
			t.Errorf("Read(Write(%d)) = %d", n, got)
		}
	}
	if got := Read(nil); got != 0 {
		t.Errorf("Read(nil) = %d", got)
	}
	if got := Read([]byte{1, 0}); got != 256 {
		t.Errorf("Read of two bytes = %d", got)
	}
	if got := Read([]byte{9, 0, 0, 0, 0, 0, 0, 0, 1}); got != 1 {
		t.Errorf("Read of nine bytes = %d", got)
	}
}
