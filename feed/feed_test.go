package feed

import (
	"math"
	"slices"
	"testing"

	"rickyard/api"
)

// some is the next number of a row that is made by a rule.
func some(x uint32) uint32 {
	return x*1664525 + 1013904223
}

// opened is a feed that is open.
func opened(t *testing.T, room int) *Feed {
	t.Helper()
	f, e := New(room)
	if f == nil || e != api.OK {
		t.Fatalf("New(%d) = %v, %v", room, f, e)
	}
	return f
}

// is tells of an error that is another one than it should be.
func is(t *testing.T, name string, got, want api.Errno) {
	t.Helper()
	if got != want {
		t.Errorf("%s: %v; want %v", name, got, want)
	}
}

// has tells of a feed that has not just so many urgent ones and others.
func has(t *testing.T, name string, f *Feed, urgent, others int) {
	t.Helper()
	if u, o := f.Len(); u != urgent || o != others {
		t.Errorf("%s: Len = %d, %d; want %d, %d", name, u, o, urgent, others)
	}
}

// takes tells of a feed of which something else is taken.
func takes(t *testing.T, name string, f *Feed, want int, wantUrgent bool, wantE api.Errno) {
	t.Helper()
	if v, urgent, e := f.Take(); v != want || urgent != wantUrgent || e != wantE {
		t.Errorf("%s: Take = %d, %v, %v; want %d, %v, %v", name, v, urgent, e, want, wantUrgent, wantE)
	}
}

func TestP19_1NewWrong(t *testing.T) {
	for _, room := range []int{0, -1, api.MaxFeed + 1, math.MinInt, math.MaxInt} {
		if f, e := New(room); f != nil || e != api.ErrArg {
			t.Errorf("New(%d) = %v, %v", room, f, e)
		}
	}
}

func TestP19_1NewIsEmptyAndOpen(t *testing.T) {
	for _, room := range []int{1, 2, api.MaxFeed - 1, api.MaxFeed} {
		f := opened(t, room)
		has(t, "new", f, 0, 0)
		takes(t, "new", f, 0, false, api.ErrNone)
		is(t, "Put", f.Put(1, false), api.OK)
		is(t, "Close", f.Close(), api.OK)
	}
}

func TestP19_1Nil(t *testing.T) {
	for name, f := range map[string]*Feed{"nil": nil, "no call made it": {}, "no call made it, closed": {closed: true}} {
		for _, urgent := range []bool{false, true} {
			is(t, name+": Put", f.Put(1, urgent), api.ErrNil)
		}
		takes(t, name, f, 0, false, api.ErrNil)
		has(t, name, f, 0, 0)
		is(t, name+": Close", f.Close(), api.ErrNil)
		is(t, name+": Close again", f.Close(), api.ErrNil)
	}
}

func TestP19_1RowsHaveRoom(t *testing.T) {
	for _, room := range []int{1, 2, 7, api.MaxFeed} {
		for _, first := range []bool{false, true} {
			f := opened(t, room)
			for i := range room {
				is(t, "Put", f.Put(i, first), api.OK)
			}
			is(t, "one too many", f.Put(-1, first), api.ErrFull)
			is(t, "and again", f.Put(-1, first), api.ErrFull)
			for i := range room {
				is(t, "Put into the other row", f.Put(100+i, !first), api.OK)
			}
			is(t, "one too many of the other row", f.Put(-1, !first), api.ErrFull)
			has(t, "full", f, room, room)
			_, urgent, _ := f.Take()
			is(t, "the row that was taken of has room", f.Put(200, urgent), api.OK)
			is(t, "for one alone", f.Put(201, urgent), api.ErrFull)
			is(t, "and the other one has none", f.Put(201, !urgent), api.ErrFull)
		}
	}
}

func TestP19_1Example(t *testing.T) {
	f := opened(t, 3)
	is(t, "Put", f.Put(5, false), api.OK)
	is(t, "Put", f.Put(7, true), api.OK)
	has(t, "both", f, 1, 1)
	takes(t, "first", f, 7, true, api.OK)
	has(t, "the other one", f, 0, 1)
	takes(t, "second", f, 5, false, api.OK)
	has(t, "none", f, 0, 0)
	takes(t, "third", f, 0, false, api.ErrNone)
}

func TestP19_1Closed(t *testing.T) {
	f := opened(t, 2)
	for _, v := range []int{4, 3} {
		is(t, "Put", f.Put(v, false), api.OK)
	}
	is(t, "Put", f.Put(9, true), api.OK)
	is(t, "Close", f.Close(), api.OK)
	is(t, "Close again", f.Close(), api.ErrClosed)
	is(t, "Put into a row with room", f.Put(1, true), api.ErrClosed)
	is(t, "Put into a row without", f.Put(1, false), api.ErrClosed)
	has(t, "closed", f, 1, 2)
	takes(t, "closed", f, 9, true, api.OK)
	takes(t, "closed", f, 4, false, api.OK)
	has(t, "closed", f, 0, 1)
	takes(t, "closed", f, 3, false, api.OK)
	takes(t, "closed, empty", f, 0, false, api.ErrNone)
	takes(t, "closed, empty", f, 0, false, api.ErrNone)
	is(t, "Put into an empty one", f.Put(1, false), api.ErrClosed)
	is(t, "Close of an empty one", f.Close(), api.ErrClosed)
	has(t, "closed, empty", f, 0, 0)
}

func TestP19_1AnyNumber(t *testing.T) {
	numbers := []int{0, -1, math.MinInt, math.MaxInt, 0}
	for _, urgent := range []bool{false, true} {
		f := opened(t, len(numbers))
		for _, v := range numbers {
			is(t, "Put", f.Put(v, urgent), api.OK)
		}
		for _, v := range numbers {
			takes(t, "any number", f, v, urgent, api.OK)
		}
		takes(t, "none", f, 0, false, api.ErrNone)
	}
}

func TestP19_1FeedsAreApart(t *testing.T) {
	f, g := opened(t, 1), opened(t, 1)
	is(t, "Put", f.Put(1, true), api.OK)
	has(t, "the other feed", g, 0, 0)
	is(t, "Close", f.Close(), api.OK)
	is(t, "Put into the other feed", g.Put(2, true), api.OK)
	takes(t, "the other feed", g, 2, true, api.OK)
	takes(t, "the closed feed", f, 1, true, api.OK)
}

// plain is a feed as two lists, the others' first.
type plain struct {
	room int
	rows [2][]int
}

func (p *plain) put(v, row int) api.Errno {
	if len(p.rows[row]) == p.room {
		return api.ErrFull
	}
	p.rows[row] = append(p.rows[row], v)
	return api.OK
}

func (p *plain) take() (int, bool, api.Errno) {
	for _, row := range []int{1, 0} {
		if l := p.rows[row]; len(l) > 0 {
			p.rows[row] = l[1:]
			return l[0], row == 1, api.OK
		}
	}
	return 0, false, api.ErrNone
}

func TestP19_2RowsKeepTheirOrder(t *testing.T) {
	f := opened(t, api.MaxFeed)
	var want [2][]int
	x := uint32(3)
	for i := range api.MaxFeed {
		x = some(x)
		is(t, "Put", f.Put(int(x), i%2 == 0), api.OK)
		want[i%2] = append(want[i%2], int(x))
	}
	for _, v := range slices.Concat(want[0], want[1]) {
		got, urgent, e := f.Take()
		if got != v || e != api.OK || urgent != slices.Contains(want[0], v) {
			t.Fatalf("Take = %d, %v, %v; want %d", got, urgent, e, v)
		}
	}
}

func TestP19_3UrgentOnesFirst(t *testing.T) {
	x := uint32(11)
	for _, room := range []int{1, 3, api.MaxFeed} {
		f := opened(t, room)
		for i := range 5000 {
			x = some(x)
			if x>>28 < 9 {
				f.Put(i, x>>27&1 == 1)
				continue
			}
			ahead, _ := f.Len()
			if _, urgent, e := f.Take(); e == api.OK && urgent != (ahead > 0) {
				t.Fatalf("Take is urgent: %v, where %d are", urgent, ahead)
			}
		}
	}
}

func TestP19_4TakenOnceAndNothingElse(t *testing.T) {
	x := uint32(29)
	for _, room := range []int{1, 2, 5, 17, api.MaxFeed} {
		f, p := opened(t, room), &plain{room: room}
		for i := range 4000 {
			x = some(x)
			likely := uint32(5 + i/500) // the rows fill in the end
			if x>>28 < likely {
				row := int(x >> 27 & 1)
				is(t, "Put", f.Put(i, row == 1), p.put(i, row))
			} else {
				v, urgent, e := p.take()
				takes(t, "made", f, v, urgent, e)
			}
			has(t, "made", f, len(p.rows[1]), len(p.rows[0]))
			if i == 3500 {
				is(t, "Close", f.Close(), api.OK)
				break
			}
		}
		for range len(p.rows[0]) + len(p.rows[1]) + 1 {
			v, urgent, e := p.take()
			takes(t, "closed", f, v, urgent, e)
		}
	}
}
