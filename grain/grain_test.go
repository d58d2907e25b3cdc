package grain

import (
	"math"
	"slices"
	"testing"

	"rickyard/api"
)

const top = api.MaxTime

// rules is rules with these sizes and ages, one behind the other, and a Keep.
func rules(keep int64, pairs ...int64) api.Rules {
	r := api.Rules{Keep: keep}
	for i := 0; i < len(pairs); i += 2 {
		r.Grans = append(r.Grans, api.Gran{Size: pairs[i], Age: pairs[i+1]})
	}
	return r
}

// rights is right rules: ordinary ones, and those at the edges.
func rights() []api.Rules {
	return []api.Rules{
		rules(200, 1, 0, 10, 20, 60, 100),
		rules(0, 1, 0),
		rules(0, 7, 0),
		rules(3, 2, 0, 4, 0, 8, 0, 16, 0),
		rules(20, 1, 0, 2, 20),
		rules(9, 3, 0, 6, 5, 30, 5, 60, 9),
		rules(40, 1, 0, 3, 7, 6, 11, 12, 40),
		rules(0, top, 0),
		rules(2*top, top/2, 0, top, top),
		rules(2*top, 1, 0, 2, 1, top/2, top-1, top, top),
		rules(top, 1, 0, top, top),
		rules(5, 1, 0, top-1, 5),
	}
}

// wrongs is rules each of which has one thing that is wrong.
func wrongs() []api.Rules {
	return []api.Rules{
		{},
		{Keep: 5},
		{Grans: []api.Gran{}},
		rules(5, 1, 0, 2, 1, 4, 2, 8, 3, 16, 4),
		rules(5, 1, 1),
		rules(5, 1, -1),
		rules(5, 0, 0),
		rules(5, -1, 0),
		rules(5, math.MinInt64, 0),
		rules(5, top+1, 0),
		rules(5, math.MaxInt64, 0),
		rules(5, 1, 0, 0, 1),
		rules(5, 1, 0, -2, 1),
		rules(5, 1, 0, top+1, 1),
		rules(5, 1, 0, 2*top, 1),
		rules(5, 2, 0, 2, 1),
		rules(5, 2, 0, 3, 1),
		rules(5, 4, 0, 2, 1),
		rules(5, 2, 0, 4, 1, 4, 1),
		rules(5, 2, 0, 4, 1, 6, 1),
		rules(5, 2, 0, 4, -1),
		rules(5, 2, 0, 4, 3, 8, 2),
		rules(2*top, 2, 0, 4, top+1),
		rules(math.MaxInt64, 2, 0, 4, math.MaxInt64),
		rules(4, 1, 0, 2, 5),
		rules(-1, 1, 0),
		rules(math.MinInt64, 1, 0),
		rules(2*top+1, 1, 0),
		rules(math.MaxInt64, 1, 0),
	}
}

// noTimes is numbers that are no times.
func noTimes() []int64 {
	return []int64{-1, -2, top + 1, 2 * top, math.MinInt64, math.MaxInt64}
}

// times is times for rules: all small ones, and those around the edges.
func times() []int64 {
	var l []int64
	for i := range int64(140) {
		l = append(l, i)
	}
	for _, x := range []int64{top / 2, top - 60, top} {
		for d := int64(-2); d <= 2; d++ {
			if x+d <= top {
				l = append(l, x+d)
			}
		}
	}
	return l
}

// bucketEnd is where the bucket of a time ends, found by multiples counted up.
func bucketEnd(t, size int64) int64 {
	return (t/size + 1) * size
}

// wantStep goes through all steps as the words say, with no thought of what their order makes needless.
func wantStep(r api.Rules, t, w int64) int {
	step := 0
	for i, g := range r.Grans {
		if bucketEnd(t, g.Size) <= w-g.Age {
			step = i
		}
	}
	return step
}

func TestP3_1Right(t *testing.T) {
	for _, r := range rights() {
		kept := slices.Clone(r.Grans)
		if !Right(r) {
			t.Errorf("Right(%v) is false", r)
		}
		if !slices.Equal(r.Grans, kept) {
			t.Errorf("Right changed %v to %v", kept, r.Grans)
		}
	}
	for _, r := range wrongs() {
		if Right(r) {
			t.Errorf("Right(%v) is true", r)
		}
	}
	many := api.Rules{Grans: make([]api.Gran, 1000), Keep: 1}
	if Right(many) {
		t.Error("Right of a thousand steps")
	}
	// What lies behind a list's length is not read.
	front := rules(5, 1, 0, 2, 5, 3, 1)
	front.Grans = front.Grans[:2]
	if !Right(front) {
		t.Errorf("Right(%v) is false", front)
	}
}

func TestP3_1Floor(t *testing.T) {
	for _, c := range []struct{ t, size, want int64 }{
		{0, 1, 0}, {0, 10, 0}, {9, 10, 0}, {10, 10, 10}, {75, 10, 70}, {75, 1, 75}, {75, 60, 60},
		{5, top, 0}, {top, top, top}, {top - 1, top, 0}, {top, 1, top}, {top, top - 1, top - 1}, {top, 3, top - 1},
	} {
		if got, e := Floor(c.t, c.size); e != api.OK || got != c.want {
			t.Errorf("Floor(%d, %d) = %d, %v, want %d", c.t, c.size, got, e, c.want)
		}
	}
	for _, bad := range noTimes() {
		if got, e := Floor(bad, 10); e != api.ErrArg || got != 0 {
			t.Errorf("Floor(%d, 10) = %d, %v, want ErrArg", bad, got, e)
		}
		if got, e := Floor(55, bad); e != api.ErrArg || got != 0 {
			t.Errorf("Floor(55, %d) = %d, %v, want ErrArg", bad, got, e)
		}
	}
	if got, e := Floor(55, 0); e != api.ErrArg || got != 0 {
		t.Errorf("Floor(55, 0) = %d, %v, want ErrArg", got, e)
	}
	if got, e := Floor(-1, 0); e != api.ErrArg || got != 0 {
		t.Errorf("Floor(-1, 0) = %d, %v, want ErrArg", got, e)
	}
}

func TestP3_2Examples(t *testing.T) {
	r := rules(200, 1, 0, 10, 20, 60, 100)
	for _, c := range []struct {
		t, w, from int64
		step       int
	}{
		{75, 100, 70, 1}, {85, 100, 85, 0}, {79, 100, 70, 1}, {80, 100, 80, 0}, {70, 99, 70, 0}, {70, 100, 70, 1},
		{0, 0, 0, 0}, {0, 29, 0, 0}, {0, 30, 0, 1}, {0, 159, 0, 1}, {0, 160, 0, 2}, {59, 160, 0, 2}, {60, 160, 60, 1},
		{500, 3, 500, 0}, {top, top, top, 0}, {0, top, 0, 2}, {top, 0, top, 0},
	} {
		if got, e := Step(r, c.t, c.w); e != api.OK || got != c.step {
			t.Errorf("Step(%d, %d) = %d, %v, want %d", c.t, c.w, got, e, c.step)
		}
		if from, step, e := Bucket(r, c.t, c.w); e != api.OK || from != c.from || step != c.step {
			t.Errorf("Bucket(%d, %d) = %d, %d, %v, want %d, %d", c.t, c.w, from, step, e, c.from, c.step)
		}
	}
	for _, c := range []struct {
		t, w int64
		want bool
	}{{59, 260, true}, {59, 259, false}, {60, 260, false}, {0, 260, true}, {60, 319, false}, {60, 320, true}, {0, 0, false}, {top, top, false}} {
		if got, e := Expired(r, c.t, c.w); e != api.OK || got != c.want {
			t.Errorf("Expired(%d, %d) = %v, %v, want %v", c.t, c.w, got, e, c.want)
		}
	}
}

func TestP3_2ByTheWords(t *testing.T) {
	for _, r := range rights() {
		last := r.Grans[len(r.Grans)-1]
		for _, x := range times() {
			for _, w := range times() {
				step := wantStep(r, x, w)
				if got, e := Step(r, x, w); e != api.OK || got != step {
					t.Fatalf("Step(%v, %d, %d) = %d, %v, want %d", r, x, w, got, e, step)
				}
				from := bucketEnd(x, r.Grans[step].Size) - r.Grans[step].Size
				if got, at, e := Bucket(r, x, w); e != api.OK || got != from || at != step {
					t.Fatalf("Bucket(%v, %d, %d) = %d, %d, %v, want %d, %d", r, x, w, got, at, e, from, step)
				}
				gone := bucketEnd(x, last.Size) <= w-r.Keep
				if got, e := Expired(r, x, w); e != api.OK || got != gone {
					t.Fatalf("Expired(%v, %d, %d) = %v, %v, want %v", r, x, w, got, e, gone)
				}
			}
			for i, g := range r.Grans {
				if got, e := End(r, x, i); e != api.OK || got != bucketEnd(x, g.Size) {
					t.Fatalf("End(%v, %d, %d) = %d, %v, want %d", r, x, i, got, e, bucketEnd(x, g.Size))
				}
			}
		}
	}
}

// held asks all calls that take rules, and tells whether each answers this error and zero values.
func held(t *testing.T, want api.Errno, r api.Rules, x, w int64) {
	t.Helper()
	if got, e := Step(r, x, w); e != want || got != 0 {
		t.Errorf("Step(%v, %d, %d) = %d, %v, want %v", r, x, w, got, e, want)
	}
	if from, step, e := Bucket(r, x, w); e != want || from != 0 || step != 0 {
		t.Errorf("Bucket(%v, %d, %d) = %d, %d, %v, want %v", r, x, w, from, step, e, want)
	}
	if got, e := Expired(r, x, w); e != want || got {
		t.Errorf("Expired(%v, %d, %d) = %v, %v, want %v", r, x, w, got, e, want)
	}
}

func TestP3_2Wrong(t *testing.T) {
	for _, r := range wrongs() {
		held(t, api.ErrRules, r, 5, 50)
		held(t, api.ErrRules, r, -1, -1)
		for _, step := range []int{0, -1, 4, 99} {
			for _, from := range []int64{0, -1} {
				if got, e := End(r, from, step); e != api.ErrRules || got != 0 {
					t.Errorf("End(%v, %d, %d) = %d, %v, want ErrRules", r, from, step, got, e)
				}
			}
		}
	}
	for _, r := range rights() {
		for _, bad := range noTimes() {
			held(t, api.ErrArg, r, bad, 5)
			held(t, api.ErrArg, r, 5, bad)
			if got, e := End(r, bad, 0); e != api.ErrArg || got != 0 {
				t.Errorf("End(%v, %d, 0) = %d, %v, want ErrArg", r, bad, got, e)
			}
		}
		for _, step := range []int{-1, len(r.Grans), 99, math.MinInt, math.MaxInt} {
			if got, e := End(r, 5, step); e != api.ErrArg || got != 0 {
				t.Errorf("End(%v, 5, %d) = %d, %v, want ErrArg", r, step, got, e)
			}
		}
	}
	// A step that lies in the list's memory but behind its length is none.
	front := rules(5, 1, 0, 2, 5, 4, 5)
	front.Grans = front.Grans[:2]
	if got, e := End(front, 5, 2); e != api.ErrArg || got != 0 {
		t.Errorf("End of a step behind the length = %d, %v, want ErrArg", got, e)
	}
}

func TestP3_3Nested(t *testing.T) {
	for _, r := range rights() {
		for _, x := range times() {
			for i := 1; i < len(r.Grans); i++ {
				fine, _ := Floor(x, r.Grans[i-1].Size)
				coarse, _ := Floor(x, r.Grans[i].Size)
				fineEnd, _ := End(r, x, i-1)
				coarseEnd, _ := End(r, x, i)
				if coarse > fine || coarseEnd < fineEnd || fine > x || fineEnd <= x {
					t.Fatalf("%v: the bucket %d to %d of %d lies not within %d to %d", r, fine, fineEnd, x, coarse, coarseEnd)
				}
			}
		}
	}
}

func TestP3_4AsAWhole(t *testing.T) {
	for _, r := range rights() {
		for _, x := range times() {
			for _, w := range times() {
				from, step, _ := Bucket(r, x, w)
				gone, _ := Expired(r, x, w)
				past, _ := End(r, from, step)
				for _, y := range []int64{from, from + 1, (from + past) / 2, past - 1} {
					if y < from || y >= past || y > top {
						continue
					}
					f, s, e := Bucket(r, y, w)
					g, _ := Expired(r, y, w)
					if e != api.OK || f != from || s != step || g != gone {
						t.Fatalf("%v at %d: %d has the bucket %d of %d (%v), %d the bucket %d of %d (%v)", r, w, x, from, step, gone, y, f, s, g)
					}
				}
			}
		}
	}
}

func TestP3_5NeverFiner(t *testing.T) {
	marks := times()
	slices.Sort(marks)
	for _, r := range rights() {
		for _, x := range times() {
			before, was := 0, false
			for _, w := range marks {
				step, _ := Step(r, x, w)
				gone, _ := Expired(r, x, w)
				if step < before || was && !gone {
					t.Fatalf("%v: at %d the step of %d is %d (expired: %v), ahead of that %d (%v)", r, w, x, step, gone, before, was)
				}
				if gone && step != len(r.Grans)-1 {
					t.Fatalf("%v: at %d the time %d is expired at the step %d", r, w, x, step)
				}
				before, was = step, gone
			}
		}
	}
}

// FuzzStep: any numbers are answered as the words say, or refused; none panics.
func FuzzStep(f *testing.F) {
	f.Add(int64(75), int64(100), int64(1), int64(10), int64(20), int64(200), 2)
	f.Add(int64(math.MinInt64), int64(math.MaxInt64), int64(0), int64(-1), int64(math.MinInt64), int64(math.MaxInt64), -1)
	f.Fuzz(func(t *testing.T, x, w, first, second, age, keep int64, step int) {
		r := rules(keep, first, 0, second, age)
		got, e := Step(r, x, w)
		past, f := End(r, x, step)
		if !Right(r) {
			if e != api.ErrRules || f != api.ErrRules || got != 0 || past != 0 {
				t.Errorf("of wrong rules: %d, %v, %d, %v", got, e, past, f)
			}
			return
		}
		if e == api.OK && got != wantStep(r, x, w) {
			t.Errorf("Step(%v, %d, %d) = %d", r, x, w, got)
		}
		if f == api.OK && past != bucketEnd(x, r.Grans[step].Size) {
			t.Errorf("End(%v, %d, %d) = %d", r, x, step, past)
		}
	})
}
