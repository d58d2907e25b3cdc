package store

import (
	"bytes"
	"math"
	"slices"
	"strconv"
	"strings"
	"testing"

	"rickyard/agg"
	"rickyard/api"
	"rickyard/fold"
	"rickyard/key"
	"rickyard/manifest"
	"rickyard/pick"
	"rickyard/simfs"
	"rickyard/table"
	"rickyard/wal"
)

// lay makes a file with bytes, all sure.
func lay(t *testing.T, f *simfs.FS, name string, b []byte) {
	t.Helper()
	for _, e := range []api.Errno{f.Create(name), f.Append(name, b), f.Sync(name), f.SyncDir()} {
		fine(t, e)
	}
}

// tableOf is the bytes of a table.
func tableOf(t *testing.T, l []api.Entry) []byte {
	t.Helper()
	b, e := table.Write(l)
	fine(t, e)
	return b
}

// entriesOf is facts as entries of the first step.
func entriesOf(t *testing.T, r api.Rules, facts []api.Fact) []api.Entry {
	t.Helper()
	l, e := fold.Facts(r, 0, facts)
	fine(t, e)
	return l
}

// run is a run that is laid by hand: its level, and its facts.
type run struct {
	level int
	facts []api.Fact
}

// laid is a file system with runs, the numbers 10 and on, from the last one down, and a state that says so.
func laid(t *testing.T, r api.Rules, log int, mark int64, l ...run) *simfs.FS {
	t.Helper()
	f := disk(t)
	state := manifest.State{Log: log, Next: 10 + len(l), Mark: mark}
	for i, x := range l {
		entries := entriesOf(t, r, x.facts)
		file := 10 + len(l) - 1 - i
		lay(t, f, wal.Name("run-", file), tableOf(t, entries))
		state.Runs = append(state.Runs, manifest.Run{File: file, Level: x.level, Count: len(entries)})
	}
	fine(t, manifest.Save(f, 5, state))
	return f
}

// logged writes records into a segment.
func logged(t *testing.T, f *simfs.FS, n int, records ...wal.Record) {
	t.Helper()
	l, e := wal.Start(f, n)
	fine(t, e)
	for _, x := range records {
		fine(t, l.Add(x))
	}
	fine(t, l.Sync())
}

func batchOf(l ...api.Fact) wal.Record { return wal.Record{Facts: l, Mark: -1} }

func markOf(w int64) wal.Record { return wal.Record{Mark: w} }

// notOpened tells of an Open that is refused otherwise than it should be, or that changes something.
func notOpened(t *testing.T, name string, f *simfs.FS, r api.Rules, want api.Errno) {
	t.Helper()
	ahead := image(f)
	s, e := Open(f, r)
	if s != nil || e != want {
		t.Errorf("%s: Open = %v, %v; want %v", name, s, e, want)
	}
	if image(f) != ahead {
		t.Errorf("%s: files have changed", name)
	}
}

func TestP18_1Rules(t *testing.T) {
	for _, r := range []api.Rules{
		{}, {Keep: 5}, {Grans: []api.Gran{{Size: 0}}}, {Grans: []api.Gran{{Size: 1, Age: 1}}, Keep: 5}, {Grans: []api.Gran{{Size: 2}, {Size: 3}}},
		{Grans: []api.Gran{{Size: 1}}, Keep: -1}, {Grans: []api.Gran{{Size: 1}}, Keep: 2*top + 1}, {Grans: make([]api.Gran, 5)}, {Grans: []api.Gran{{Size: math.MinInt64}}},
	} {
		notOpened(t, "rules", disk(t), r, api.ErrRules)
		notOpened(t, "rules, and no file system", nil, r, api.ErrRules)
		broken := disk(t)
		lay(t, broken, "current", []byte{1})
		notOpened(t, "rules, and no state", broken, r, api.ErrRules)
	}
}

func TestP18_1Nil(t *testing.T) {
	notOpened(t, "nil", nil, example(), api.ErrNil)
	notOpened(t, "no call made it", &simfs.FS{}, example(), api.ErrNil)
}

func TestP18_1New(t *testing.T) {
	for _, r := range rights() {
		f := disk(t)
		s := opened(t, f, r)
		if s.Mark() != 0 || s.ReadOnly() || len(s.Runs()) != 0 {
			t.Errorf("a new store: %v, %v, %v", s.Mark(), s.ReadOnly(), s.Runs())
		}
		answers(t, "new", s, r, nil)
		tidy(t, "new", f)
		state, n, e := manifest.Load(f)
		if e != api.OK || len(state.Runs) > 0 || state.Mark != 0 || state.Log < 2 || state.Next <= state.Log || state.Next <= n {
			t.Errorf("its state: %v, %v, %v", state, n, e)
		}
		fine(t, f.Crash(0, nil))
		tidy(t, "new, and a crash", f)
	}
}

func TestP18_1RulesAreNotKept(t *testing.T) {
	r := example()
	s := opened(t, disk(t), r)
	fine(t, s.Ingest(batch("a", 12, 3), 1))
	fine(t, s.Advance(50))
	r.Grans[1] = api.Gran{Size: 7, Age: 1}
	answers(t, "rules turned", s, example(), batch("a", 12, 3))
}

func TestP18_1StateIsNone(t *testing.T) {
	cases := map[string]func(f *simfs.FS){
		"no pointer":   func(f *simfs.FS) { lay(t, f, "current", []byte{1, 2, 3}) },
		"an empty one": func(f *simfs.FS) { lay(t, f, "current", nil) },
		"without states": func(f *simfs.FS) {
			fine(t, manifest.Save(f, 5, manifest.State{Log: 1, Next: 2}))
			fine(t, f.Remove("man-5"))
		},
		"an empty state": func(f *simfs.FS) {
			fine(t, manifest.Save(f, 5, manifest.State{Log: 1, Next: 2}))
			fine(t, f.Remove("man-5"))
			lay(t, f, "man-5", nil)
		},
	}
	for name, do := range cases {
		f := disk(t)
		logged(t, f, 1, batchOf(fact("a", 1, 1)))
		do(f)
		notOpened(t, name, f, example(), api.ErrCorrupt)
	}
}

func TestP18_1RunIsNoTable(t *testing.T) {
	r, two := example(), []api.Fact{fact("a", 1, 1), fact("a", 2, 2)}
	whole := tableOf(t, entriesOf(t, r, two))
	turned := bytes.Clone(whole)
	turned[9] ^= 1
	none, _ := table.Write(nil)
	for name, b := range map[string][]byte{
		"empty": nil, "cut": whole[:len(whole)-1], "longer": append(bytes.Clone(whole), 0), "turned": turned,
		"one entry": tableOf(t, entriesOf(t, r, two[:1])), "three": tableOf(t, entriesOf(t, r, append(two, fact("b", 1, 1)))), "none": none,
	} {
		for _, file := range []string{"run-10", "run-11", "run-12"} {
			f := laid(t, r, 1, 0, run{0, two}, run{0, two}, run{1, two})
			fine(t, f.Remove(file))
			lay(t, f, file, b)
			notOpened(t, name, f, r, api.ErrCorrupt)
		}
	}
	f := laid(t, r, 1, 0, run{0, two})
	fine(t, f.Remove("run-10"))
	notOpened(t, "no file", f, r, api.ErrCorrupt)
}

func TestP18_1RunsDoNotFit(t *testing.T) {
	r := example()
	other := api.Rules{Grans: []api.Gran{{Size: 5}}, Keep: 100}
	notOpened(t, "finer", laid(t, r, 1, 0, run{0, batch("a", 12, 1)}), other, api.ErrRules)
	notOpened(t, "one of two", laid(t, r, 1, 0, run{0, batch("a", 10, 1)}, run{0, batch("a", 12, 1)}), other, api.ErrRules)
	answers(t, "it fits", opened(t, laid(t, r, 1, 0, run{0, batch("a", 10, 1)}), other), other, batch("a", 10, 1))

	no := api.Entry{Key: []byte("no key"), Agg: agg.One(1)}
	f := disk(t)
	lay(t, f, "run-2", tableOf(t, []api.Entry{no}))
	fine(t, manifest.Save(f, 3, manifest.State{Runs: []manifest.Run{{File: 2, Count: 1}}, Log: 1, Next: 3}))
	notOpened(t, "no keys", f, r, api.ErrRules)

	// That a file is no table is told ahead of what does not fit, whichever run stands first.
	for _, gone := range []string{"run-10", "run-11"} {
		f := laid(t, r, 1, 0, run{0, batch("a", 12, 1)}, run{0, batch("a", 12, 1)})
		fine(t, f.Remove(gone))
		notOpened(t, "both", f, other, api.ErrCorrupt)
	}
}

func TestP18_1Segments(t *testing.T) {
	r := example()
	f := laid(t, r, 3, 7, run{0, batch("a", 1, 1)}, run{2, batch("b", 2, 2)})
	logged(t, f, 2, batchOf(fact("x", 1, 100)), markOf(90))
	logged(t, f, 3, batchOf(fact("c", 3, 3), fact("c", 3, 30)), markOf(11), batchOf(fact("c", 4, 4)), markOf(5))
	logged(t, f, 9, markOf(10), batchOf(fact("d", 9, 9)))
	logged(t, f, 100, batchOf(fact("e", 10, 10)))
	s := opened(t, f, r)
	if s.Mark() != 11 {
		t.Errorf("mark %d; want 11", s.Mark())
	}
	answers(t, "segments", s, r, []api.Fact{fact("a", 1, 1), fact("b", 2, 2), fact("c", 3, 3), fact("c", 3, 30), fact("c", 4, 4), fact("d", 9, 9), fact("e", 10, 10)})
	if got, want := levels(s), [][2]int{{0, 4}, {0, 1}, {2, 1}}; !slices.Equal(got, want) {
		t.Errorf("runs %v; want %v", got, want)
	}
	tidy(t, "segments", f)
	for _, n := range stateFiles(t, f) {
		for _, kind := range []string{"wal-", "man-"} {
			if x, ok := wal.Number(kind, n); ok && x <= 100 {
				t.Errorf("%s is not fresh", n)
			}
		}
	}
}

func TestP18_1StatesMarkIsGreater(t *testing.T) {
	f := laid(t, example(), 1, 70, run{0, batch("a", 12, 1)})
	logged(t, f, 1, markOf(60), batchOf(fact("a", 13, 1)))
	s := opened(t, f, example())
	if s.Mark() != 70 {
		t.Errorf("mark %d; want 70", s.Mark())
	}
	answers(t, "mark", s, example(), []api.Fact{fact("a", 12, 1), fact("a", 13, 1)})
	if got, want := s.Runs(), []bool{false, true}; len(got) != 2 || got[0].Stale != want[0] || got[1].Stale != want[1] {
		t.Errorf("runs %v", got)
	}
	if state, _, _ := manifest.Load(f); state.Mark != 70 {
		t.Errorf("the state's mark is %d", state.Mark)
	}
}

func TestP18_1TornSegment(t *testing.T) {
	for cut := range 60 {
		f := disk(t)
		logged(t, f, 1, batchOf(fact("a", 1, 1)))
		b, _ := f.Read("wal-1")
		if cut >= len(b) {
			break
		}
		fine(t, f.Append("wal-1", b[:cut]))
		logged(t, f, 4, batchOf(fact("b", 1, 1)))
		answers(t, "torn", opened(t, f, example()), example(), []api.Fact{fact("a", 1, 1), fact("b", 1, 1)})
	}
}

func TestP18_1ListBecomesARun(t *testing.T) {
	f := disk(t)
	s := opened(t, f, example())
	fine(t, s.Ingest([]api.Fact{fact("a", 12, 3), fact("a", 15, 4), fact("b", 45, 1)}, 1))
	fine(t, s.Advance(50))
	fine(t, s.Close())
	s = opened(t, f, example())
	if got, want := levels(s), [][2]int{{0, 2}}; !slices.Equal(got, want) {
		t.Errorf("runs %v; want %v", got, want)
	}
	ahead := image(f)
	is(t, "Flush", s.Flush(), api.OK)
	if image(f) != ahead {
		t.Errorf("the list was not empty")
	}
	fine(t, s.Close())
	s = opened(t, f, example())
	if got, want := levels(s), [][2]int{{0, 2}}; !slices.Equal(got, want) {
		t.Errorf("opened again: runs %v; want %v", got, want)
	}
	if s.Mark() != 50 {
		t.Errorf("opened again: mark %d", s.Mark())
	}
}

func TestP18_1AllIsExpired(t *testing.T) {
	f := disk(t)
	s := opened(t, f, example())
	fine(t, s.Ingest(batch("a", 12, 3), 1))
	fine(t, s.Advance(1000))
	fine(t, s.Close())
	s = opened(t, f, example())
	if len(s.Runs()) > 0 || s.Mark() != 1000 {
		t.Errorf("runs %v, mark %d", s.Runs(), s.Mark())
	}
	tidy(t, "expired", f)
}

// many is so many runs of level 0, each of one fact of its own.
func many(n int) ([]run, []api.Fact) {
	var l []run
	var all []api.Fact
	for i := range n {
		x := fact("m"+strconv.Itoa(i), int64(i), int64(i))
		l = append(l, run{0, []api.Fact{x}})
		all = append(all, x)
	}
	return l, all
}

func TestP18_1ManyRuns(t *testing.T) {
	r := example()
	for _, x := range []struct {
		low, high, want int
		some            bool
	}{{61, 0, 62, true}, {62, 0, 63, true}, {63, 0, 1, true}, {64, 0, 1, true}, {64, 0, 64, false}, {63, 0, 63, false}, {59, 3, 63, true}, {60, 3, 4, true}, {61, 3, 4, true}, {61, 3, 64, false}} {
		l, all := many(x.low)
		for level := range x.high {
			l = append(l, run{level + 1, batch("up", int64(level), 5)})
			all = append(all, fact("up", int64(level), 5))
		}
		f := laid(t, r, 1, 0, l...)
		if x.some {
			logged(t, f, 1, batchOf(fact("list", 5, 5), fact("m0", 0, 1)))
			all = append(all, fact("list", 5, 5), fact("m0", 0, 1))
		}
		s := opened(t, f, r)
		answers(t, "many", s, r, all)
		if got := s.Runs(); len(got) != x.want || len(got) > 0 && got[0].Level != 0 {
			t.Errorf("%v: %d runs", x, len(got))
		}
		if x.want <= 4 && s.Runs()[0].Count != x.low+1 {
			t.Errorf("%v: %v", x, s.Runs())
		}
		tidy(t, "many", f)
	}
}

// block is facts of so many times, with one dimension.
func block(dim string, n int) []api.Fact {
	var l []api.Fact
	for i := range n {
		l = append(l, fact(dim, int64(i), 1))
	}
	return l
}

func TestP18_1ManyRunsFull(t *testing.T) {
	r := example()
	for _, x := range []struct {
		size int
		want api.Errno
	}{{api.MaxEntries - 64, api.OK}, {api.MaxEntries - 63, api.OK}, {api.MaxEntries - 62, api.ErrFull}, {api.MaxEntries, api.ErrFull}} {
		l, _ := many(62)
		f := laid(t, r, 1, 0, append(l, run{0, block("block", x.size)})...)
		logged(t, f, 1, batchOf(fact("list", 5, 5)))
		if x.want != api.OK {
			notOpened(t, "full", f, r, x.want)
			// What is expired counts no more.
			logged(t, f, 2, markOf(150), batchOf(fact("list", 140, 5)))
		}
		s := opened(t, f, r)
		if len(s.Runs()) != 1 {
			t.Errorf("%v: %v", x, levels(s))
		}
	}
}

func TestP18_1SegmentsHaveMoreThanTheList(t *testing.T) {
	r := example()
	for _, more := range []int{0, 1} {
		f := disk(t)
		facts := block("a", api.MaxEntries+more)
		var records []wal.Record
		for l := range slices.Chunk(facts, api.MaxBatch) {
			records = append(records, batchOf(l...))
		}
		logged(t, f, 1, records[:100]...)
		logged(t, f, 2, records[100:]...)
		if more == 0 {
			if s := opened(t, f, r); !tells(s, r, facts) || len(s.Runs()) != 1 {
				t.Errorf("as many as there may be: %v", levels(s))
			}
			continue
		}
		notOpened(t, "one more", f, r, api.ErrFull)
	}
}

func TestP18_1OtherFilesGo(t *testing.T) {
	r := example()
	f := laid(t, r, 3, 0, run{0, batch("a", 1, 1)})
	logged(t, f, 1, batchOf(fact("x", 1, 1)))
	logged(t, f, 3, batchOf(fact("b", 1, 1)))
	for _, name := range []string{"current.new", "man-4", "man-77", "run-9", "run-010", "run-", "wal-0", "wal-03", "wal-", "other", "-", "run-10.new", "man-0"} {
		lay(t, f, name, []byte("other"))
	}
	s := opened(t, f, r)
	answers(t, "others", s, r, []api.Fact{fact("a", 1, 1), fact("b", 1, 1)})
	tidy(t, "others", f)
	fine(t, f.Crash(1<<20, nil))
	tidy(t, "others, and a crash", f)
	if state, n, _ := manifest.Load(f); n <= 77 || state.Log <= 77 || state.Runs[0].File <= 77 || state.Next <= n {
		t.Errorf("%v, %v: numbers are not fresh", state, n)
	}
}

func TestP18_1NumbersRise(t *testing.T) {
	f := disk(t)
	numbers := func() []int {
		var l []int
		for _, name := range f.List() {
			for _, kind := range []string{"run-", "wal-", "man-"} {
				if n, ok := wal.Number(kind, name); ok {
					l = append(l, n)
				}
			}
		}
		return l
	}
	most := 0
	s := opened(t, f, example())
	do := []func(){
		func() { fine(t, s.Ingest(batch("a", 1, 1), 1)) },
		func() { fine(t, s.Flush()) },
		func() { fine(t, s.Ingest(batch("a", 2, 1), 1)) },
		func() { fine(t, f.Fail(2, api.ErrIO)); is(t, "Flush", s.Flush(), api.ErrIO) },
		func() { fine(t, s.Flush()) },
		func() { s.Step() },
		func() { fine(t, s.Ingest(batch("a", 3, 1), 1)) },
		func() { fine(t, s.Close()); s = opened(t, f, example()) },
	}
	for i, x := range do {
		ahead := numbers()
		x()
		for _, n := range numbers() {
			if !slices.Contains(ahead, n) && n <= most {
				t.Errorf("%d: the number %d was used, or is not above %d", i, n, most)
			}
		}
		most = max(most, slices.Max(numbers()))
	}
}

func TestP18_1NumbersComeToAnEnd(t *testing.T) {
	const last = 1 << 40
	for found := last - 8; found <= last; found++ {
		f := disk(t)
		lay(t, f, wal.Name("run-", found), nil)
		logged(t, f, 1, batchOf(fact("a", 1, 1)))
		s, e := Open(f, example())
		if s == nil {
			if e != api.ErrArg || found < last-3 {
				t.Errorf("found %d: %v", found, e)
			}
			continue
		}
		facts := batch("a", 1, 1)
		for i := range int64(9) {
			fine(t, s.Ingest(batch("a", i, 1), 1))
			facts = append(facts, fact("a", i, 1))
			ahead := image(f)
			if e := s.Flush(); e != api.OK && (e != api.ErrArg || image(f) != ahead || s.ReadOnly()) {
				t.Errorf("found %d: Flush %v, %v", found, e, s.ReadOnly())
			}
			answers(t, "no numbers left", s, example(), facts)
		}
	}
}

// crowded is a file system with two runs, segments that count, one that does not, and other files.
func crowded(t *testing.T) (*simfs.FS, []api.Fact) {
	t.Helper()
	f := laid(t, example(), 3, 0, run{0, batch("a", 1, 1)}, run{1, batch("b", 2, 2)})
	logged(t, f, 1, batchOf(fact("x", 1, 1)))
	logged(t, f, 3, batchOf(fact("c", 3, 3)), markOf(20))
	logged(t, f, 30, batchOf(fact("d", 4, 4)))
	lay(t, f, "current.new", []byte("other"))
	return f, []api.Fact{fact("a", 1, 1), fact("b", 2, 2), fact("c", 3, 3), fact("d", 4, 4)}
}

func TestP18_1FailuresWithinOpen(t *testing.T) {
	// A run: Create, Append, Sync, SyncDir; a segment: Create, SyncDir; a state: ten calls, as a file current.new is there.
	const calls = 16
	for _, e := range []api.Errno{api.ErrIO, api.ErrSpace} {
		for k := range calls + 8 {
			f, facts := crowded(t)
			fine(t, f.Fail(k, e))
			s, got := Open(f, example())
			if k < calls && (s != nil || got != e) || k >= calls && (s == nil || got != api.OK) {
				t.Fatalf("call %d: %v, %v", k, s, got)
			}
			fine(t, f.Fail(-1, e))
			if s == nil {
				s = opened(t, f, example())
				tidy(t, "opened again", f)
			}
			answers(t, "behind a failure", s, example(), facts)
			settled(t, s)
			tidy(t, "behind steps", f)
		}
	}
}

func TestP18_1FailedOpenLeavesNoFiles(t *testing.T) {
	for k := range 6 { // as long as no state is saved
		f, _ := crowded(t)
		fine(t, f.Fail(k, api.ErrIO))
		notOpened(t, "failed", f, example(), api.ErrIO)
	}
}

func TestP18_1NoRoom(t *testing.T) {
	facts := block("a", 16)
	for room := 1; room < 4000; room += 37 {
		f, e := simfs.New(room)
		fine(t, e)
		if s, e := Open(f, example()); s == nil && e != api.ErrSpace || s != nil && e != api.OK {
			t.Fatalf("room %d: %v, %v", room, s, e)
		} else if s != nil && s.Ingest(facts, 1) == api.OK {
			answers(t, "room", s, example(), facts)
			if e := s.Flush(); e != api.OK && e != api.ErrSpace {
				t.Fatalf("room %d: Flush %v", room, e)
			}
			answers(t, "room, flushed", s, example(), facts)
			if e := s.Close(); e != api.OK {
				t.Fatalf("room %d: Close %v", room, e)
			}
			if s, e := Open(f, example()); e == api.OK {
				answers(t, "room, opened again", s, example(), facts)
			} else if e != api.ErrSpace {
				t.Fatalf("room %d: Open %v", room, e)
			}
		}
	}
}

func TestP18_1LongKeys(t *testing.T) {
	long := strings.Repeat("\x00", api.MaxDim)
	r := example()
	f := disk(t)
	s := opened(t, f, r)
	var facts []api.Fact
	for i := range int64(api.MaxEntries / api.MaxBatch) {
		var l []api.Fact
		for j := range int64(api.MaxBatch) {
			n := i*api.MaxBatch + j
			unlike := string([]byte{byte(n >> 6), byte(n)}) + long[2:]
			l = append(l, api.Fact{Dims: []string{unlike, long, long, long}, At: top - n, Value: math.MinInt64})
		}
		if i == api.MaxEntries/api.MaxBatch-1 {
			fine(t, s.Close()) // the segment is as long as it may be only in the middle of it
			s = opened(t, f, r)
		}
		fine(t, s.Ingest(l, 1+int(i)%api.MaxTower))
		facts = append(facts, l...)
		if i == 250 {
			fine(t, s.Flush())
		}
	}
	fine(t, s.Flush())
	rows, e := s.Scan(nil, 0, top)
	if e != api.OK || len(rows) != len(facts)-1 { // the last time of all is in no range
		t.Errorf("%d rows, %v", len(rows), e)
	}
	if did, e := s.Step(); !did || e != api.OK || len(s.Runs()) != 1 || s.Runs()[0].Count != api.MaxEntries {
		t.Errorf("Step: %v, %v, %v", did, e, levels(s))
	}
	k, _ := key.Group(facts[0].Dims)
	if len(k) < 130 {
		t.Errorf("a key of %d bytes is not long", len(k))
	}
}

func TestP18_1RunsAreTheStates(t *testing.T) {
	f, _ := crowded(t)
	s := opened(t, f, example())
	state, _, _ := manifest.Load(f)
	var want []pick.Run
	for _, r := range state.Runs {
		want = append(want, pick.Run{File: r.File, Level: r.Level, Count: r.Count})
	}
	if got := s.Runs(); !slices.Equal(got, want) || len(got) != 3 {
		t.Errorf("runs %v; want %v", got, want)
	}
}
