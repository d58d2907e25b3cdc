package store

import (
	"slices"
	"testing"

	"rickyard/api"
	"rickyard/pick"
	"rickyard/simfs"
)

// witness notes what a store was told, and how much of it is sure.
type witness struct {
	t       *testing.T
	r       api.Rules
	f       *simfs.FS
	s       *Store
	batches [][]api.Fact // whose Ingest was OK
	sure    int          // so many of them
	marks   []int64      // the mark, as it moved on; the first one is sure
}

// begun is a witness of a new store.
func begun(t *testing.T, r api.Rules) *witness {
	t.Helper()
	f := disk(t)
	return &witness{t: t, r: r, f: f, s: opened(t, f, r), marks: []int64{0}}
}

// settle notes that all batches are sure.
func (x *witness) settle() { x.sure = len(x.batches) }

// settleMark notes that the mark is sure.
func (x *witness) settleMark() { x.marks = x.marks[len(x.marks)-1:] }

func (x *witness) ingest(l []api.Fact) api.Errno {
	e := x.s.Ingest(l, 1+len(x.batches)%api.MaxTower)
	if e == api.OK {
		x.batches = append(x.batches, l)
	}
	return e
}

func (x *witness) advance(by int64) api.Errno {
	w := x.s.Mark() + by
	e := x.s.Advance(w)
	if e == api.OK {
		x.marks = append(x.marks, w)
	}
	return e
}

func (x *witness) sync() api.Errno {
	e := x.s.Sync()
	if e == api.OK {
		x.settle()
		x.settleMark()
	}
	return e
}

func (x *witness) flush() api.Errno {
	e := x.s.Flush()
	if e == api.OK {
		x.settle()
	}
	return e
}

func (x *witness) step() api.Errno {
	_, e := x.s.Step()
	return e
}

// reopen closes and opens the store. Where opening fails, there is none.
func (x *witness) reopen() api.Errno {
	readOnly := x.s.ReadOnly()
	if e := x.s.Close(); e != api.OK {
		return e
	}
	if !readOnly {
		x.settle()
		x.settleMark()
	}
	s, e := Open(x.f, x.r)
	x.s = s
	return e
}

// agrees holds the store's answers against all batches.
func (x *witness) agrees(name string) {
	x.t.Helper()
	if x.s == nil {
		return
	}
	if w := x.s.Mark(); w != x.marks[len(x.marks)-1] {
		x.t.Fatalf("%s: mark %d; want %v", name, w, x.marks)
	}
	answers(x.t, name, x.s, x.r, lists(x.batches))
}

// crashed crashes, opens again, and holds what is there against what was sure.
func (x *witness) crashed(name string, ops int, keeps []int) {
	x.t.Helper()
	fine(x.t, x.f.Crash(ops, keeps))
	x.recovered(name)
}

// recovered opens a file system that has crashed.
func (x *witness) recovered(name string) {
	x.t.Helper()
	s, e := Open(x.f, x.r)
	if s == nil || e != api.OK {
		x.t.Fatalf("%s: Open = %v, %v", name, s, e)
	}
	x.s = s
	if !slices.Contains(x.marks, s.Mark()) {
		x.t.Fatalf("%s: mark %d; want one of %v", name, s.Mark(), x.marks)
	}
	for n := x.sure; n <= len(x.batches); n++ {
		if tells(s, x.r, lists(x.batches[:n])) {
			x.batches, x.sure, x.marks = x.batches[:n:n], n, []int64{s.Mark()}
			x.agrees(name)
			tidy(x.t, name, x.f)
			return
		}
	}
	rows, _ := s.Scan(nil, 0, top)
	x.t.Fatalf("%s: %v is of no beginning of %v from %d on", name, rows, x.batches, x.sure)
}

// script is what is done to a store, one by one, up to the first that fails.
func script() []func(x *witness) api.Errno {
	ingest := func(l ...api.Fact) func(x *witness) api.Errno {
		return func(x *witness) api.Errno { return x.ingest(l) }
	}
	advance := func(by int64) func(x *witness) api.Errno {
		return func(x *witness) api.Errno { return x.advance(by) }
	}
	return []func(x *witness) api.Errno{
		ingest(fact("a", 1, 1), fact("a", 12, 2)), (*witness).sync, ingest(fact("b", 2, 4)), advance(5), ingest(fact("a", 1, 8)), (*witness).flush,
		ingest(fact("c", 13, 16)), advance(30), ingest(fact("a", 14, 32)), (*witness).flush, (*witness).step, ingest(fact("d", 15, 64)), ingest(fact("d", 60, 128)),
		(*witness).flush, advance(20), ingest(fact("e", 16, 256)), (*witness).reopen, ingest(fact("a", 61, 512)), (*witness).step, (*witness).step, advance(80),
		ingest(fact("a", 62, 1024)), (*witness).flush, (*witness).step, ingest(fact("f", 140, 2048)), (*witness).step, ingest(fact("f", 141, 4096)), (*witness).sync,
		ingest(fact("f", 141, 8192)), (*witness).reopen,
	}
}

// calls is more than the calls of a script to the file system are.
const calls = 130

// played plays the script up to the first call that fails, by a plan, and tells whether there is one.
func played(x *witness, after int) bool {
	fine(x.t, x.f.Fail(after, api.ErrIO))
	for _, do := range script() {
		if do(x) != api.OK {
			return true
		}
	}
	return false
}

// keeping is how much of each file a crash keeps: nothing, all, or something between by a rule.
func keeping(way int) []int {
	keeps := make([]int, api.MaxFiles)
	for i := range keeps {
		switch way {
		case 0:
		case 1:
			keeps[i] = api.MaxFile
		default:
			keeps[i] = int(some(uint32(way*1000+i))>>16) % (way * 7)
		}
	}
	return keeps
}

func TestP18_5Script(t *testing.T) {
	for _, r := range rights() {
		x := begun(t, r)
		for i, do := range script() {
			if e := do(x); e != api.OK {
				t.Fatalf("%d: %v", i, e)
			}
			x.agrees("script")
		}
	}
}

// TestP18_6CrashAtAnyCall crashes at each call of the script to the file system, with all that may be pending, and in many ways to keep bytes.
func TestP18_6CrashAtAnyCall(t *testing.T) {
	failed := 0
	for k := range calls {
		for _, ops := range []int{-1, 0, 1, 2, 3, 4, 5, 6, 8, 1 << 20} {
			for way := range 6 {
				x := begun(t, example())
				if played(x, k) {
					failed++
				}
				x.crashed("a crash", ops, keeping(way))
				fine(t, x.ingest(batch("after", 150, 1)))
				x.agrees("behind a crash")
			}
		}
	}
	if failed < calls/2*60 {
		t.Errorf("only %d calls failed", failed)
	}
	if played(begun(t, example()), calls) {
		t.Errorf("the script has more calls than %d", calls)
	}
}

// TestP18_6CrashBetweenCalls crashes behind each line of the script: what is removed is still pending then, so that all fronts of it are kept.
func TestP18_6CrashBetweenCalls(t *testing.T) {
	for stop := range len(script()) + 1 {
		for ops := range 12 {
			for way := range 3 {
				x := begun(t, example())
				for _, do := range script()[:stop] {
					fine(t, do(x))
				}
				x.crashed("a crash", ops, keeping(way))
			}
		}
	}
}

// TestP18_6CrashWithinOpen crashes within an Open that finds a crash's files, at each of its calls, and again.
func TestP18_6CrashWithinOpen(t *testing.T) {
	for _, first := range []int{5, 11, 14, 16, 20, 22, 33, 40, 60, 80} {
		for k := range 20 {
			for _, ops := range []int{0, 1, 2, 3, 5, 1 << 20} {
				x := begun(t, example())
				played(x, first)
				fine(t, x.f.Crash(ops, keeping(k%4)))
				fine(t, x.f.Fail(k, api.ErrIO))
				if s, e := Open(x.f, x.r); e == api.OK {
					x.s = s
				}
				x.crashed("within Open", ops, keeping(k%3))
			}
		}
	}
}

// TestP7CrashAfterCrash has many crashes, each within what the last one left.
func TestP7CrashAfterCrash(t *testing.T) {
	seed := uint32(77)
	for _, r := range rights() {
		x := begun(t, r)
		for range 60 {
			seed = some(seed)
			fine(t, x.f.Fail(int(seed>>16)%40, api.ErrIO))
			for range 40 {
				if e := x.act(&seed); e != api.OK && e != api.ErrFull {
					break
				}
			}
			seed = some(seed)
			ops := int(seed>>16)%9 - 1
			seed = some(seed)
			way := int(seed>>16) % 9
			x.crashed("crash after crash", ops, keeping(way))
		}
	}
}

// act does something that a rule chooses.
func (x *witness) act(seed *uint32) api.Errno {
	if x.s == nil {
		return api.ErrNil
	}
	*seed = some(*seed)
	switch n := *seed >> 16 % 20; {
	case n < 9:
		var l []api.Fact
		l, *seed = madeFacts(*seed, 1+int(n), 90)
		for i := range l {
			l[i].At = min(l[i].At+max(0, x.s.Mark()-60), top-1)
		}
		return x.ingest(l)
	case n < 11:
		return x.sync()
	case n < 14:
		return x.advance(int64(n-10) * 7)
	case n < 16:
		return x.flush()
	case n < 19:
		return x.step()
	}
	return x.reopen()
}

// TestP7CrashesWithinOpenFillNoDirectory crashes within Open so often that what is left of it would take all names.
func TestP7CrashesWithinOpenFillNoDirectory(t *testing.T) {
	for k := range 17 {
		for _, some := range []bool{false, true} {
			x := begun(t, example())
			fine(t, x.ingest(batch("a", 12, 1)))
			fine(t, x.flush())
			if some {
				fine(t, x.ingest(batch("b", 13, 2)))
				fine(t, x.sync())
			}
			most := 0
			for i := range 2 * api.MaxFiles {
				fine(t, x.f.Fail(k, api.ErrIO))
				if _, e := Open(x.f, x.r); e != api.ErrIO && e != api.OK { // where what failed was a file's removal, it is open
					t.Fatalf("call %d, crash %d: Open: %v", k, i, e)
				}
				fine(t, x.f.Crash(0, nil))
				most = max(most, len(x.f.List()))
			}
			if most > api.MaxFiles*3/4 {
				t.Errorf("call %d: there were %d files", k, most)
			}
			x.recovered("behind very many crashes")
		}
	}
}

// TestP7RelievedAheadOfTime has an edit that is not sure, and so many files that some go ahead of what Open writes.
func TestP7RelievedAheadOfTime(t *testing.T) {
	const others = api.MaxFiles/2 + 10
	for k := range others + 30 { // each of the others is removed by a call
		for ops := range 6 {
			x := begun(t, example())
			for i := range int64(3) {
				fine(t, x.ingest(batch("a", i, 1)))
				fine(t, x.flush())
			}
			fine(t, x.f.Fail(5, api.ErrIO)) // the edit is written, but not synced
			is(t, "Step", x.step(), api.ErrIO)
			for i := range others {
				fine(t, x.f.Create("other-"+string([]byte{'a' + byte(i%26), 'a' + byte(i/26)})))
			}
			fine(t, x.f.Fail(k, api.ErrIO))
			if s, e := Open(x.f, x.r); e == api.OK {
				answers(t, "opened", s, x.r, lists(x.batches))
			}
			x.crashed("relieved", ops*100, nil)
		}
	}
}

// TestP18_7Failures fails at each call of the script, and goes on with it.
func TestP18_7Failures(t *testing.T) {
	for k := range calls {
		for _, e := range []api.Errno{api.ErrIO, api.ErrSpace} {
			x := begun(t, example())
			fine(t, x.f.Fail(k, e))
			failed := false
			for i, do := range script() {
				ahead, readOnly := x.s, x.s.ReadOnly()
				got := do(x)
				switch {
				case x.s == nil || x.s.closed: // it could not be opened again, or not be synced when it was closed
					x.s = opened(t, x.f, x.r)
					is(t, "closing and opening", got, e)
				case x.s != ahead: // it was opened again, and takes on
					is(t, "opening", got, api.OK)
				case readOnly:
					is(t, "read only", got, api.ErrReadOnly)
				case got != api.OK:
					is(t, "a failure", got, e)
				}
				if got == e && failed {
					t.Fatalf("call %d, line %d: it failed twice", k, i)
				}
				failed = failed || got == e
				x.agrees("behind a failure")
			}
			fine(t, x.f.Fail(-1, e))
			x.s = opened(t, x.f, x.r)
			x.agrees("opened again")
			tidy(t, "opened again", x.f)
		}
	}
}

// TestP18_7FailuresMadeByRule fails here and there, and crashes nowhere.
func TestP18_7FailuresMadeByRule(t *testing.T) {
	seed := uint32(4711)
	for _, r := range rights() {
		x := begun(t, r)
		for range 35 {
			seed = some(seed)
			fine(t, x.f.Fail(int(seed>>16)%30, api.ErrSpace))
			for range 10 {
				x.act(&seed)
				if x.s == nil || x.s.closed {
					break
				}
				x.agrees("failures")
			}
			fine(t, x.f.Fail(-1, api.ErrIO))
			if x.s == nil || x.s.closed || x.s.ReadOnly() {
				x.s = opened(t, x.f, r)
				x.agrees("opened again")
				tidy(t, "opened again", x.f)
			}
			settled(t, x.s)
			tidy(t, "settled", x.f)
		}
	}
}

func TestP18_5MadeByRule(t *testing.T) {
	seed := uint32(99)
	for _, r := range rights() {
		x := begun(t, r)
		for range 200 {
			if e := x.act(&seed); e != api.OK && e != api.ErrFull {
				t.Fatal(e)
			}
			x.agrees("made by a rule")
		}
	}
}

// TestP6InWhateverBatchesAndOrder ingests the same facts in other batches, another order, with other marks between, flushed and put together elsewhere.
func TestP6InWhateverBatchesAndOrder(t *testing.T) {
	seed := uint32(5)
	for _, r := range rights() {
		for range 12 {
			var facts []api.Fact
			facts, seed = madeFacts(seed, 120, 200)
			seed = some(seed)
			last := int64(seed>>16) % 300
			want := plain(r, last, facts)
			for turn := range 4 {
				f := disk(t)
				s := opened(t, f, r)
				left := slices.Clone(facts)
				for len(left) > 0 {
					seed = some(seed)
					n := min(len(left), 1+int(seed>>16)%api.MaxBatch)
					some := left[:n]
					if turn%2 == 1 {
						some = left[len(left)-n:]
						left = left[:len(left)-n]
					} else {
						left = left[n:]
					}
					fine(t, s.Ingest(some, 1+n%api.MaxTower))
					switch seed >> 12 % 8 {
					case 0:
						fine(t, s.Flush())
					case 1:
						settled(t, s)
					case 2:
						fine(t, s.Advance(min(last, s.Mark()+int64(seed>>24)%40)))
					case 3:
						fine(t, s.Close())
						s = opened(t, f, r)
					}
				}
				fine(t, s.Advance(last))
				if rows, e := s.Scan(nil, 0, top); e != api.OK || !same(rows, want) {
					t.Fatalf("Scan = %v, %v; want %v", rows, e, want)
				}
				settled(t, s)
				answers(t, "settled", s, r, facts)
			}
		}
	}
}

func TestP6SumsAreExact(t *testing.T) {
	s := opened(t, disk(t), example())
	const greatest = 1<<63 - 1
	for i := range int64(40) {
		fine(t, s.Ingest([]api.Fact{fact("a", 12, greatest), fact("b", 12, -greatest-1)}, 1))
		if i%9 == 0 {
			fine(t, s.Flush())
			settled(t, s)
		}
	}
	fine(t, s.Advance(60))
	if x, ok, e := s.Get([]string{"a"}, 15); !ok || e != api.OK || x.Agg.Count != 40 || x.Agg.Sum != (api.Wide{Hi: 19, Lo: 1<<64 - 40}) || x.Agg.Min != greatest {
		t.Errorf("Get = %v, %v, %v", x, ok, e)
	}
	if x, ok, e := s.Get([]string{"b"}, 15); !ok || e != api.OK || x.Agg.Count != 40 || x.Agg.Sum != (api.Wide{Hi: -20}) || x.Agg.Max != -greatest-1 {
		t.Errorf("Get = %v, %v, %v", x, ok, e)
	}
}

func TestP18_8StepsEnd(t *testing.T) {
	seed := uint32(31)
	for _, r := range rights() {
		x := begun(t, r)
		for range 20 {
			seed = some(seed)
			for range 1 + seed>>16%20 {
				var l []api.Fact
				l, seed = madeFacts(seed, 10, 300)
				fine(t, x.ingest(l))
				fine(t, x.flush())
			}
			seed = some(seed)
			fine(t, x.advance(int64(seed>>16)%20))
			settled(t, x.s)
			for i, y := range x.s.Runs() {
				if y.Stale || pick.Full(x.s.Runs(), i) {
					t.Fatalf("runs %v", x.s.Runs())
				}
			}
			tidy(t, "settled", x.f)
			x.agrees("settled")
		}
	}
}

// TestP18_8WhatCouldNotBeRemoved fails where files are removed: they go later.
func TestP18_8WhatCouldNotBeRemoved(t *testing.T) {
	for k := 6; k < 14; k++ {
		f, s, facts := flushing(t)
		fine(t, f.Fail(k, api.ErrIO))
		if did, e := s.Step(); !did || e != api.OK {
			t.Fatalf("call %d: Step = %v, %v", k, did, e)
		}
		fine(t, f.Fail(-1, api.ErrIO))
		if did, e := s.Step(); did || e != api.OK {
			t.Fatalf("call %d: Step = %v, %v", k, did, e)
		}
		tidy(t, "a step", f)
		fine(t, f.Fail(k+2, api.ErrIO))
		fine(t, s.Flush())
		fine(t, f.Fail(-1, api.ErrIO))
		settled(t, s)
		tidy(t, "a flush", f)
		answers(t, "removed later", s, example(), facts)
	}
}

func TestP18Example(t *testing.T) {
	f := disk(t)
	s := opened(t, f, example())
	fine(t, s.Ingest(batch("a", 12, 3), 1))
	fine(t, s.Sync())
	fine(t, f.Crash(0, nil))
	s = opened(t, f, example())
	answers(t, "the fact is there", s, example(), batch("a", 12, 3))
	if len(s.Runs()) != 1 {
		t.Errorf("runs %v", s.Runs())
	}
}

// TestP18WholeExample has the document's ten examples of the whole, as far as a store tells them.
func TestP18WholeExample(t *testing.T) {
	f := disk(t)
	s := opened(t, f, example())
	facts := []api.Fact{fact("a", 12, 3), fact("a", 15, 4), fact("b", 45, 1)}
	fine(t, s.Ingest(facts, 1))
	answers(t, "at 0", s, example(), facts)
	fine(t, s.Advance(50))
	answers(t, "at 50", s, example(), facts)
	if rows, e := s.Rollup(0, 0, 1000); e != api.OK || len(rows) != 1 || rows[0].Agg.Count != 3 || rows[0].Agg.Sum.Lo != 8 || rows[0].Size != 1000 {
		t.Errorf("Rollup = %v, %v", rows, e)
	}
	fine(t, s.Flush())
	if got := s.Runs(); len(got) != 1 || got[0].Level != 0 || got[0].Count != 2 || got[0].Stale {
		t.Errorf("runs %v", got)
	}
	fine(t, s.Advance(130))
	if got := s.Runs(); len(got) != 1 || got[0].Count != 2 || !got[0].Stale {
		t.Errorf("runs %v", got)
	}
	if did, e := s.Step(); !did || e != api.OK {
		t.Errorf("Step = %v, %v", did, e)
	}
	if got := s.Runs(); len(got) != 1 || got[0].Level != 0 || got[0].Count != 1 || got[0].Stale {
		t.Errorf("runs %v", got)
	}
	rows, e := s.Scan(nil, 0, 1000)
	if e != api.OK || len(rows) != 1 || rows[0].From != 40 || rows[0].Size != 10 || rows[0].Agg.Count != 1 {
		t.Errorf("Scan = %v, %v", rows, e)
	}
	is(t, "back", s.Advance(100), api.ErrBack)
	fine(t, s.Close())
	answers(t, "opened again", opened(t, f, example()), example(), facts)
}

// FuzzOpen opens what was laid by hand, and uses it.
func FuzzOpen(f *testing.F) {
	f.Add([]byte{1, 0, 0, 0, 5, 1, 2, 3, 4}, []byte{}, []byte{}, []byte{}, 3, 7)
	whole := func() *simfs.FS {
		disk, _ := simfs.New(1 << 20)
		s, _ := Open(disk, example())
		s.Ingest(batch("a", 1, 1), 1)
		s.Flush()
		s.Ingest(batch("b", 2, 2), 1)
		return disk
	}()
	var parts [][]byte
	for _, name := range whole.List() { // current, man-3, run-4, wal-5
		b, _ := whole.Read(name)
		parts = append(parts, b)
	}
	f.Add(parts[0], parts[1], parts[2], parts[3], 0, 100)
	f.Fuzz(func(t *testing.T, current, man, table, segment []byte, fail, ops int) {
		disk, _ := simfs.New(1 << 20)
		for name, b := range map[string][]byte{"current": current, "man-3": man, "run-4": table, "wal-5": segment} {
			disk.Create(name)
			disk.Append(name, b)
			disk.Sync(name)
		}
		disk.SyncDir()
		s, e := Open(disk, example())
		if (s == nil) == (e == api.OK) {
			t.Fatalf("Open = %v, %v", s, e)
		}
		if s == nil {
			return
		}
		ahead, _ := s.Scan(nil, 0, top)
		disk.Fail(fail, api.ErrIO)
		s.Flush()
		s.Step()
		disk.Crash(ops, nil)
		s, e = Open(disk, example())
		if e != api.OK {
			t.Fatalf("opened again: %v", e)
		}
		if rows, _ := s.Scan(nil, 0, top); !same(rows, ahead) {
			t.Fatalf("opened again: %v; want %v", rows, ahead)
		}
	})
}
