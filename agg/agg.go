// Package agg is layer 2: see shared/doc/02-agg.md.
package agg

import (
	"math"
	"math/bits"

	"rickyard/api"
	"rickyard/wide"
	"rickyard/word"
)

// Where the fields of what is known begin in its bytes, and how many bytes it takes.
const (
	atCount = 1
	atSum   = 9
	atMin   = 25
	atMax   = 33
	size    = 41
)

// One is what is known of one fact.
func One(v int64) api.Agg {
	return api.Agg{Count: 1, Sum: wide.Of(v), Min: v, Max: v}
}

// Merge is what is known of both.
func Merge(a, b api.Agg) api.Agg {
	if a.Count == 0 {
		return b
	}
	if b.Count == 0 {
		return a
	}
	count, over := together(a.Count, b.Count)
	return api.Agg{
		Count: count,
		Over:  over || a.Over || b.Over,
		Sum:   wide.Add(a.Sum, b.Sum),
		Min:   chosen(a.Min, b.Min, func(x, y int64) bool { return x < y }),
		Max:   chosen(a.Max, b.Max, func(x, y int64) bool { return x > y }),
	}
}

// Right tells whether something may be known.
func Right(a api.Agg) bool {
	if a.Count == 0 {
		return a == api.Agg{}
	}
	return a.Min <= a.Max && (!a.Over || a.Count == math.MaxUint64)
}

// Many is what is known of many facts.
func Many(l []int64) api.Agg {
	var all api.Agg
	for _, v := range l {
		all = Merge(all, One(v))
	}
	return all
}

// Write is its bytes.
func Write(a api.Agg) ([]byte, api.Errno) {
	if !Right(a) {
		return nil, api.ErrForm
	}
	out := make([]byte, 1, size)
	if a.Over {
		out[0] = 1
	}
	out = append(out, word.Write(a.Count)...)
	out = append(out, wide.Write(a.Sum)...)
	out = append(out, word.Write(uint64(a.Min), uint64(a.Max))...)
	return out, api.OK
}

// Read reads its bytes.
func Read(b []byte) (api.Agg, api.Errno) {
	if len(b) < size {
		return api.Agg{}, api.ErrShort
	}
	if len(b) > size {
		return api.Agg{}, api.ErrLong
	}
	sum, e := wide.Read(b[atSum:atMin])
	a := api.Agg{
		Count: word.Read(b[atCount:atSum]),
		Over:  b[0] == 1,
		Sum:   sum,
		Min:   int64(word.Read(b[atMin:atMax])),
		Max:   int64(word.Read(b[atMax:])),
	}
	if b[0] > 1 || e != api.OK || !Right(a) {
		return api.Agg{}, api.ErrForm
	}
	return a, api.OK
}

// together is how many facts two counts are, and whether they are more than can be told.
func together(a, b uint64) (uint64, bool) {
	count, carry := bits.Add64(a, b, 0)
	if carry != 0 {
		return math.MaxUint64, true
	}
	return count, false
}

// chosen is the one of two that comes first in an order.
func chosen[T any](a, b T, ahead func(x, y T) bool) T {
	if ahead(b, a) {
		return b
	}
	return a
}
