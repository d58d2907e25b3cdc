package store

import (
	"math"
	"slices"
	"strings"
	"testing"

	"rickyard/api"
	"rickyard/ask"
	"rickyard/manifest"
	"rickyard/pick"
	"rickyard/simfs"
	"rickyard/wal"
)

// refuses tells of a store that answers one of its calls otherwise than with an error.
func refuses(t *testing.T, name string, s *Store, want api.Errno) {
	t.Helper()
	is(t, name+": Ingest", s.Ingest(batch("a", 1, 1), 1), want)
	is(t, name+": Ingest of nothing", s.Ingest(nil, 0), want)
	is(t, name+": Sync", s.Sync(), want)
	is(t, name+": Advance", s.Advance(1), want)
	is(t, name+": Advance to no time", s.Advance(-1), want)
	is(t, name+": Flush", s.Flush(), want)
	if did, e := s.Step(); did || e != want {
		t.Errorf("%s: Step = %v, %v", name, did, e)
	}
}

// silent tells of a store that answers questions otherwise than with an error.
func silent(t *testing.T, name string, s *Store, want api.Errno) {
	t.Helper()
	refuses(t, name, s, want)
	for _, dims := range [][]string{nil, {"a"}, make([]string, 9)} {
		if x, ok, e := s.Get(dims, -1); ok || e != want || !sameRow(x, ask.Row{}) {
			t.Errorf("%s: Get = %v, %v, %v", name, x, ok, e)
		}
		if l, e := s.Scan(dims, 5, 4); len(l) > 0 || e != want {
			t.Errorf("%s: Scan = %v, %v", name, l, e)
		}
	}
	if l, e := s.Rollup(-1, 5, 4); len(l) > 0 || e != want {
		t.Errorf("%s: Rollup = %v, %v", name, l, e)
	}
	if s.Mark() != 0 || len(s.Runs()) > 0 || s.ReadOnly() {
		t.Errorf("%s: %v, %v, %v", name, s.Mark(), s.Runs(), s.ReadOnly())
	}
	is(t, name+": Close", s.Close(), want)
}

func TestP18_2Nil(t *testing.T) {
	silent(t, "nil", nil, api.ErrNil)
	silent(t, "no call made it", &Store{}, api.ErrNil)
	silent(t, "no call made it", &Store{readOnly: true, mark: 5}, api.ErrNil)
}

func TestP18_2Closed(t *testing.T) {
	f := disk(t)
	s := opened(t, f, example())
	fine(t, s.Ingest(batch("a", 1, 1), 1))
	fine(t, s.Flush())
	fine(t, s.Advance(7))
	fine(t, s.Close())
	ahead := image(f)
	silent(t, "closed", s, api.ErrClosed)
	if image(f) != ahead {
		t.Errorf("a closed store has changed files")
	}

	s = opened(t, f, example())
	fine(t, f.Fail(0, api.ErrIO))
	is(t, "Close that fails", s.Close(), api.ErrIO)
	silent(t, "closed, though that failed", s, api.ErrClosed)

	s = opened(t, f, example())
	fine(t, f.Fail(0, api.ErrIO))
	is(t, "Sync that fails", s.Sync(), api.ErrIO)
	fine(t, f.Fail(0, api.ErrIO))
	is(t, "Close of one that is read only", s.Close(), api.OK)
	silent(t, "closed, read only", s, api.ErrClosed)
	is(t, "nothing was synced", f.SyncDir(), api.ErrIO)
}

func TestP18_2CloseSyncs(t *testing.T) {
	f := disk(t)
	s := opened(t, f, example())
	fine(t, s.Ingest(batch("a", 1, 1), 1))
	fine(t, s.Advance(9))
	fine(t, s.Close())
	fine(t, f.Crash(0, nil))
	s = opened(t, f, example())
	answers(t, "closed", s, example(), batch("a", 1, 1))
	if s.Mark() != 9 {
		t.Errorf("mark %d", s.Mark())
	}
}

func TestP18_2IngestWrong(t *testing.T) {
	f := disk(t)
	s := opened(t, f, example())
	ahead := image(f)
	good, bad := batch("a", 1, 1), batch("a", -1, 1)
	for _, height := range []int{0, -1, api.MaxTower + 1, math.MinInt, math.MaxInt} {
		is(t, "height", s.Ingest(good, height), api.ErrArg)
		is(t, "height, and facts", s.Ingest(bad, height), api.ErrArg)
		is(t, "height, and no facts", s.Ingest(nil, height), api.ErrArg)
	}
	for name, l := range map[string][]api.Fact{
		"nothing": nil, "empty": {}, "too many": block("a", api.MaxBatch+1), "very many": block("a", 1000), "below 0": bad, "too late": batch("a", top+1, 1),
		"five dimensions": batch("a,b,c,d,e", 1, 1), "too long": batch(strings.Repeat("a", api.MaxDim+1), 1, 1), "the last one": append(block("a", 15), bad...), "least": batch("", math.MinInt64, 1),
	} {
		is(t, name, s.Ingest(l, 1), api.ErrFact)
	}
	if image(f) != ahead || s.ReadOnly() {
		t.Errorf("what is refused has changed something")
	}
	answers(t, "refused", s, example(), nil)
}

func TestP18_2IngestEdges(t *testing.T) {
	for _, r := range rights() {
		s := opened(t, disk(t), r)
		facts := []api.Fact{fact("a", 0, math.MinInt64), fact("a", top-1, math.MaxInt64), fact("a", 0, math.MinInt64), fact("", 5, 0)}
		facts = append(facts, api.Fact{Dims: []string{strings.Repeat("z", api.MaxDim), "", "\x00", "\xff"}, At: 5, Value: 1})
		fine(t, s.Ingest(facts, 1))
		fine(t, s.Ingest(block("b", api.MaxBatch), api.MaxTower))
		fine(t, s.Ingest(batch("a", top, 1), 3))
		facts = append(facts, block("b", api.MaxBatch)...)
		rows, e := s.Scan(nil, 0, top)
		want := slices.DeleteFunc(plain(r, 0, append(facts, fact("a", top, 1))), func(x ask.Row) bool { return x.From == top })
		if e != api.OK || !same(rows, want) {
			t.Errorf("Scan = %v, %v; want %v", rows, e, want)
		}
		if x, ok, e := s.Get([]string{"a"}, top); !ok || e != api.OK || x.Agg.Max < 1 {
			t.Errorf("Get = %v, %v, %v", x, ok, e)
		}
	}
}

func TestP18_2HeightsAreOfNoMatter(t *testing.T) {
	facts, _ := madeFacts(7, 200, 300)
	for height := 1; height <= api.MaxTower; height++ {
		s := opened(t, disk(t), example())
		for i, x := range facts {
			fine(t, s.Ingest([]api.Fact{x}, 1+i%height))
		}
		answers(t, "heights", s, example(), facts)
	}
}

func TestP18_2ListIsFull(t *testing.T) {
	f := disk(t)
	s := opened(t, f, example())
	const room = api.MaxEntries - api.MaxBatch
	facts := block("a", room+api.MaxBatch)
	for i := 0; i < room; i += api.MaxBatch {
		fine(t, s.Ingest(facts[i:i+api.MaxBatch], 1+i/api.MaxBatch%api.MaxTower))
	}
	is(t, "what is there takes no room", s.Ingest(facts[:api.MaxBatch], 2), api.OK)
	is(t, "as many as there may be", s.Ingest(facts[room:], 2), api.OK)
	ahead := image(f)
	is(t, "one more", s.Ingest(batch("b", 1, 1), 1), api.ErrFull)
	is(t, "one that is there", s.Ingest(batch("a", 1, 1), 1), api.ErrFull)
	is(t, "height", s.Ingest(batch("a", 1, 1), 0), api.ErrArg)
	is(t, "no fact", s.Ingest(batch("a", -1, 1), 1), api.ErrFact)
	if image(f) != ahead || s.ReadOnly() {
		t.Errorf("what is refused has changed something")
	}
	all := append(slices.Clone(facts), facts[:api.MaxBatch]...)
	if !tells(s, example(), all) {
		t.Errorf("answers of a list that is full")
	}
	is(t, "Flush", s.Flush(), api.OK)
	is(t, "Ingest behind it", s.Ingest(batch("b", 1, 1), 1), api.OK)
	if !tells(s, example(), append(all, fact("b", 1, 1))) {
		t.Errorf("answers behind a flush")
	}
}

func TestP18_2ListOneAheadOfFull(t *testing.T) {
	s := opened(t, disk(t), example())
	for l := range slices.Chunk(block("a", api.MaxEntries-api.MaxBatch+1), api.MaxBatch) {
		fine(t, s.Ingest(l, 5))
	}
	is(t, "one too many", s.Ingest(batch("a", 1, 1), 1), api.ErrFull)
}

func TestP18_2SegmentFails(t *testing.T) {
	for _, e := range []api.Errno{api.ErrIO, api.ErrSpace} {
		for name, do := range map[string]func(s *Store) api.Errno{
			"Ingest":  func(s *Store) api.Errno { return s.Ingest(batch("b", 2, 2), 1) },
			"Sync":    func(s *Store) api.Errno { return s.Sync() },
			"Advance": func(s *Store) api.Errno { return s.Advance(60) },
		} {
			f := disk(t)
			s := opened(t, f, example())
			fine(t, s.Ingest(batch("a", 12, 1), 1))
			fine(t, s.Flush())
			fine(t, s.Ingest(batch("a", 13, 1), 1))
			fine(t, s.Advance(33))
			fine(t, f.Fail(0, e))
			is(t, name, do(s), e)
			if !s.ReadOnly() || s.Mark() != 33 || len(s.Runs()) != 1 {
				t.Errorf("%s: %v, %v, %v", name, s.ReadOnly(), s.Mark(), s.Runs())
			}
			ahead := image(f)
			refuses(t, name, s, api.ErrReadOnly)
			if image(f) != ahead {
				t.Errorf("%s: a store that is read only has changed files", name)
			}
			facts := []api.Fact{fact("a", 12, 1), fact("a", 13, 1)}
			answers(t, name, s, example(), facts)
			fine(t, s.Close())
			s = opened(t, f, example())
			answers(t, name+", opened again", s, example(), facts)
			if s.ReadOnly() || s.Mark() != 33 {
				t.Errorf("%s, opened again: %v, %v", name, s.ReadOnly(), s.Mark())
			}
			fine(t, do(s))
		}
	}
}

func TestP18_2SegmentIsTooLong(t *testing.T) {
	f := disk(t)
	s := opened(t, f, example())
	l := block(strings.Repeat("a", api.MaxDim), api.MaxBatch)
	e := api.OK
	most := 0
	for e == api.OK {
		most++
		e = s.Ingest(l, 1)
	}
	if e != api.ErrLong || !s.ReadOnly() || most < 1000 {
		t.Errorf("%v, %v behind %d batches", e, s.ReadOnly(), most)
	}
	if x, ok, e := s.Get(l[0].Dims, 0); !ok || e != api.OK || x.Agg.Count != uint64(most-1) {
		t.Errorf("Get = %v, %v, %v", x, ok, e)
	}
	s = opened(t, f, example())
	if x, ok, e := s.Get(l[0].Dims, 0); !ok || e != api.OK || x.Agg.Count != uint64(most-1) {
		t.Errorf("opened again: Get = %v, %v, %v", x, ok, e)
	}
}

func TestP18_2Advance(t *testing.T) {
	f := disk(t)
	s := opened(t, f, example())
	for _, w := range []int64{-1, top + 1, math.MinInt64, math.MaxInt64} {
		is(t, "no time", s.Advance(w), api.ErrArg)
	}
	is(t, "to 0", s.Advance(0), api.OK)
	is(t, "to 40", s.Advance(40), api.OK)
	is(t, "back", s.Advance(39), api.ErrBack)
	is(t, "back to 0", s.Advance(0), api.ErrBack)
	ahead := image(f)
	fine(t, f.Fail(0, api.ErrIO))
	is(t, "to where it is", s.Advance(40), api.OK)
	is(t, "no time, behind that", s.Advance(-1), api.ErrArg)
	if image(f) != ahead || s.Mark() != 40 || s.ReadOnly() {
		t.Errorf("the same mark has changed something")
	}
	fine(t, f.Fail(-1, api.ErrIO))
	is(t, "to the last time", s.Advance(top), api.OK)
	fine(t, s.Sync())
	fine(t, f.Crash(0, nil))
	if s := opened(t, f, example()); s.Mark() != top {
		t.Errorf("opened again: %d", s.Mark())
	}
}

func TestP18_2BatchIsNotKept(t *testing.T) {
	s := opened(t, disk(t), example())
	dims := []string{"a"}
	l := []api.Fact{{Dims: dims, At: 5, Value: 1}, {Dims: dims, At: 6, Value: 2}}
	fine(t, s.Ingest(l[:1], 1))
	dims[0] = "turned"
	l[0].At = 9
	answers(t, "turned", s, example(), batch("a", 5, 1))
	if l[1].At != 6 || l[1].Value != 2 {
		t.Errorf("what lies behind has changed")
	}
}

func TestP18_3FlushEmpty(t *testing.T) {
	f := disk(t)
	s := opened(t, f, example())
	fine(t, s.Advance(50))
	ahead := image(f)
	fine(t, f.Fail(0, api.ErrIO))
	is(t, "Flush", s.Flush(), api.OK)
	if image(f) != ahead {
		t.Errorf("an empty list was flushed")
	}
	is(t, "no call was made", f.SyncDir(), api.ErrIO)
}

func TestP18_3Flush(t *testing.T) {
	f := disk(t)
	s := opened(t, f, example())
	facts := []api.Fact{fact("a", 12, 3), fact("a", 15, 4), fact("b", 45, 1)}
	fine(t, s.Ingest(facts, 1))
	fine(t, s.Advance(50))
	state, n, _ := manifest.Load(f)
	fine(t, s.Flush())
	fine(t, f.Crash(0, nil)) // all of it is sure, but for what is removed
	behind, m, e := manifest.Load(f)
	if e != api.OK || m != n || behind.Log <= state.Log || behind.Next <= behind.Log || behind.Mark != 50 || len(behind.Runs) != 1 {
		t.Fatalf("state %v, %d, %v", behind, m, e)
	}
	if r := behind.Runs[0]; r.Level != 0 || r.Count != 2 || r.File < state.Next {
		t.Errorf("run %v", r)
	}
	if l, e := wal.Replay(f, behind.Log); e != api.OK || len(l) > 0 {
		t.Errorf("the segment has %v, %v", l, e)
	}
	answers(t, "flushed", s, example(), facts)
}

func TestP18_3FlushRemoves(t *testing.T) {
	f := disk(t)
	s := opened(t, f, example())
	for i := range int64(5) {
		fine(t, s.Ingest(batch("a", i, i), 1))
		fine(t, s.Flush())
		tidy(t, "flushed", f)
		if got := s.Runs(); len(got) != int(i)+1 {
			t.Errorf("runs %v", got)
		}
	}
	runs := s.Runs()
	for i := 1; i < len(runs); i++ {
		if runs[i-1].File <= runs[i].File || runs[i].Level != 0 {
			t.Errorf("runs %v", runs)
		}
	}
}

func TestP18_3FlushOfWhatIsExpired(t *testing.T) {
	f := disk(t)
	s := opened(t, f, example())
	fine(t, s.Ingest(batch("a", 12, 3), 1))
	fine(t, s.Advance(500))
	ahead, _, _ := manifest.Load(f)
	fine(t, s.Flush())
	state, _, _ := manifest.Load(f)
	if len(state.Runs) > 0 || len(s.Runs()) > 0 || state.Log <= ahead.Log || state.Mark != 500 {
		t.Errorf("state %v", state)
	}
	tidy(t, "expired", f)
	image1 := image(f)
	fine(t, s.Flush())
	if image(f) != image1 {
		t.Errorf("the list was not empty")
	}
}

func TestP18_3FlushFull(t *testing.T) {
	f := disk(t)
	s := opened(t, f, example())
	var facts []api.Fact
	for i := range int64(65) {
		x := fact("a", i, i)
		facts = append(facts, x)
		fine(t, s.Ingest([]api.Fact{x}, 1))
		if i < 64 {
			fine(t, s.Flush())
		}
	}
	ahead := image(f)
	is(t, "64 runs", s.Flush(), api.ErrFull)
	if len(s.Runs()) != 64 || image(f) != ahead || s.ReadOnly() {
		t.Errorf("%d runs, %v", len(s.Runs()), s.ReadOnly())
	}
	answers(t, "full", s, example(), facts)
	is(t, "Ingest", s.Ingest(batch("b", 1, 1), 1), api.OK)
	facts = append(facts, fact("b", 1, 1))
	if did, e := s.Step(); !did || e != api.OK || !slices.Equal(levels(s), [][2]int{{1, 64}}) {
		t.Errorf("Step = %v, %v, %v", did, e, levels(s))
	}
	is(t, "Flush", s.Flush(), api.OK)
	answers(t, "flushed", s, example(), facts)
	tidy(t, "flushed", f)
}

func TestP18_3Step(t *testing.T) {
	f := disk(t)
	s := opened(t, f, example())
	step := func(want bool, runs ...[2]int) {
		t.Helper()
		ahead := image(f)
		if did, e := s.Step(); did != want || e != api.OK || !slices.Equal(levels(s), runs) {
			t.Fatalf("Step = %v, %v, %v; want %v", did, e, levels(s), runs)
		}
		tidy(t, "step", f)
		if !want && image(f) != ahead {
			t.Errorf("nothing was offered, and files have changed")
		}
	}
	step(false)
	fine(t, s.Ingest(batch("a", 12, 1), 1))
	step(false)
	fine(t, s.Flush())
	step(false, [2]int{0, 1})
	fine(t, s.Ingest([]api.Fact{fact("a", 12, 1), fact("a", 15, 1)}, 1))
	fine(t, s.Flush())
	step(true, [2]int{1, 2})
	step(false, [2]int{1, 2})
	fine(t, s.Advance(39))
	step(false, [2]int{1, 2})
	fine(t, s.Advance(40))
	step(true, [2]int{1, 1})
	step(false, [2]int{1, 1})
	if state, _, _ := manifest.Load(f); state.Mark != 40 {
		t.Errorf("the state's mark is %d", state.Mark)
	}
	fine(t, s.Advance(120))
	step(true)
	step(false)
	fine(t, s.Close())
	if s := opened(t, f, example()); s.Mark() != 120 {
		t.Errorf("mark %d", s.Mark())
	}
}

func TestP18_3StepLeavesTheList(t *testing.T) {
	f := disk(t)
	s := opened(t, f, example())
	var facts []api.Fact
	for i := range int64(2) {
		fine(t, s.Ingest(batch("a", i, i), 1))
		fine(t, s.Flush())
		facts = append(facts, fact("a", i, i))
	}
	fine(t, s.Ingest(batch("b", 5, 5), 1))
	facts = append(facts, fact("b", 5, 5))
	log := func() int { state, _, _ := manifest.Load(f); return state.Log }
	ahead := log()
	if did, e := s.Step(); !did || e != api.OK || log() != ahead {
		t.Errorf("Step = %v, %v; the segment was %d and is %d", did, e, ahead, log())
	}
	answers(t, "step", s, example(), facts)
	fine(t, s.Sync())
	fine(t, f.Crash(0, nil))
	answers(t, "step, and a crash", opened(t, f, example()), example(), facts)
}

func TestP18_3StepIsSure(t *testing.T) {
	f := disk(t)
	s := opened(t, f, example())
	for i := range int64(2) {
		fine(t, s.Ingest(batch("a", i, i), 1))
		fine(t, s.Flush())
	}
	if did, e := s.Step(); !did || e != api.OK {
		t.Fatal(did, e)
	}
	fine(t, f.Crash(0, nil))
	s = opened(t, f, example())
	if !slices.Equal(levels(s), [][2]int{{1, 2}}) {
		t.Errorf("runs %v", levels(s))
	}
}

func TestP18_3StepFull(t *testing.T) {
	r := example()
	f := laid(t, r, 1, 0, run{0, block("a", 4000)}, run{0, block("b", 96)}, run{1, batch("c", 140, 1)})
	s := opened(t, f, r)
	facts := append(append(block("a", 4000), block("b", 96)...), fact("c", 140, 1))
	ahead := image(f)
	if did, e := s.Step(); did || e != api.ErrFull || s.ReadOnly() || image(f) != ahead {
		t.Errorf("Step = %v, %v, %v", did, e, s.ReadOnly())
	}
	if !tells(s, r, facts) || len(s.Runs()) != 3 {
		t.Errorf("answers behind a step that was refused")
	}
	fine(t, s.Advance(40)) // what is over is fewer entries
	if did, e := s.Step(); !did || e != api.OK || !slices.Equal(levels(s), [][2]int{{1, 4000 - 18 + 96 - 18 + 1}}) {
		t.Errorf("Step = %v, %v, %v", did, e, levels(s))
	}
	if !tells(s, r, facts) {
		t.Errorf("answers behind a step")
	}
	f = laid(t, r, 1, 0, run{0, block("a", 4000)}, run{0, block("b", 96)})
	s = opened(t, f, r)
	if did, e := s.Step(); !did || e != api.OK || !slices.Equal(levels(s), [][2]int{{1, 4096}}) {
		t.Errorf("Step = %v, %v, %v", did, e, levels(s))
	}
}

// flushing is a store with a list to be flushed, and two runs to be put together.
func flushing(t *testing.T) (*simfs.FS, *Store, []api.Fact) {
	t.Helper()
	f := disk(t)
	s := opened(t, f, example())
	facts := []api.Fact{fact("a", 1, 1), fact("b", 2, 2), fact("c", 30, 3)}
	fine(t, s.Ingest(facts[:1], 1))
	fine(t, s.Flush())
	fine(t, s.Ingest(facts[1:2], 1))
	fine(t, s.Flush())
	fine(t, s.Ingest(facts[2:], 1))
	fine(t, s.Advance(33))
	return f, s, facts
}

// TestP18_3Failures goes through a flush and a step, call by call: the run's Create, Append, Sync, SyncDir, in a flush
// the segment's Create and SyncDir, then the state's log: Append, Sync; then what is removed.
func TestP18_3Failures(t *testing.T) {
	for _, x := range []struct {
		name       string
		do         func(s *Store) api.Errno
		log, calls int
	}{
		{"Flush", func(s *Store) api.Errno { return s.Flush() }, 6, 8},
		{"Step", func(s *Store) api.Errno { _, e := s.Step(); return e }, 4, 6},
	} {
		for k := range x.calls + 3 {
			f, s, facts := flushing(t)
			ahead, runs := f.List(), s.Runs()
			fine(t, f.Fail(k, api.ErrIO))
			e := x.do(s)
			if want := k < x.calls; (e == api.ErrIO) != want || (e == api.OK) == want {
				t.Errorf("%s, call %d: %v", x.name, k, e)
			}
			if want := k >= x.log && k < x.calls; s.ReadOnly() != want {
				t.Errorf("%s, call %d: read only %v", x.name, k, s.ReadOnly())
			}
			if k < x.calls && !slices.Equal(s.Runs(), runs) {
				t.Errorf("%s, call %d: runs %v; want %v", x.name, k, s.Runs(), runs)
			}
			if k < x.log && !slices.Equal(f.List(), ahead) {
				t.Errorf("%s, call %d: files %v; want %v", x.name, k, f.List(), ahead)
			}
			answers(t, x.name, s, example(), facts)
			fine(t, f.Fail(-1, api.ErrIO))
			if !s.ReadOnly() {
				fine(t, x.do(s))
				answers(t, x.name+", done again", s, example(), facts)
				settled(t, s)
				tidy(t, x.name+", done again", f)
			}
			fine(t, s.Close())
			s = opened(t, f, example())
			tidy(t, x.name+", opened again", f)
			answers(t, x.name+", opened again", s, example(), facts)
		}
	}
}

func TestP18_3StatesLogIsTooLong(t *testing.T) {
	f, s, facts := flushing(t)
	_, n, _ := manifest.Load(f)
	b, _ := f.Read(wal.Name("man-", n))
	fine(t, f.Append(wal.Name("man-", n), make([]byte, api.MaxFile-len(b))))
	is(t, "Flush", s.Flush(), api.ErrLong)
	if !s.ReadOnly() {
		t.Errorf("it takes on")
	}
	answers(t, "too long", s, example(), facts)
	answers(t, "too long, opened again", opened(t, f, example()), example(), facts)
}

func TestP18_3SomebodyElsesFile(t *testing.T) {
	f, s, facts := flushing(t)
	state, _, _ := manifest.Load(f)
	lay(t, f, wal.Name("run-", state.Next), []byte("other"))
	lay(t, f, wal.Name("wal-", state.Next+3), []byte("other"))
	is(t, "a run's name is taken", s.Flush(), api.ErrExists)
	is(t, "a segment's name is taken", s.Flush(), api.ErrExists)
	for _, name := range []string{wal.Name("run-", state.Next), wal.Name("wal-", state.Next+3)} {
		if b, e := f.Read(name); e != api.OK || string(b) != "other" {
			t.Errorf("%s: %q, %v", name, b, e)
		}
	}
	is(t, "then", s.Flush(), api.OK)
	answers(t, "taken names", s, example(), facts)
}

func TestP18_4Questions(t *testing.T) {
	s := opened(t, disk(t), example())
	facts := []api.Fact{fact("a", 12, 3), fact("a", 15, 4), fact("b", 45, 1), fact("b,x", 45, 9)}
	fine(t, s.Ingest(facts[:1], 1))
	fine(t, s.Flush())
	fine(t, s.Ingest(facts[1:2], 1))
	fine(t, s.Flush())
	fine(t, s.Ingest(facts[2:], 1))
	answers(t, "list and runs", s, example(), facts)
	if rows, e := s.Scan([]string{"b"}, 0, 46); e != api.OK || len(rows) != 2 || rows[1].Dims[1] != "x" {
		t.Errorf("Scan = %v, %v", rows, e)
	}
	fine(t, s.Advance(50))
	if x, ok, e := s.Get([]string{"a"}, 19); !ok || e != api.OK || x.From != 10 || x.Size != 10 || x.Agg.Count != 2 || x.Agg.Sum.Lo != 7 {
		t.Errorf("Get = %v, %v, %v", x, ok, e)
	}
	for _, dims := range [][]string{make([]string, api.MaxDims+1), {strings.Repeat("a", api.MaxDim+1)}} {
		if _, ok, e := s.Get(dims, 1); ok || e != api.ErrFact {
			t.Errorf("Get = %v, %v", ok, e)
		}
		if l, e := s.Scan(dims, 6, 5); len(l) > 0 || e != api.ErrFact {
			t.Errorf("Scan = %v, %v", l, e)
		}
	}
	if _, ok, e := s.Get(nil, top+1); ok || e != api.ErrFact {
		t.Errorf("Get = %v, %v", ok, e)
	}
	if l, e := s.Scan(nil, 6, 5); len(l) > 0 || e != api.ErrArg {
		t.Errorf("Scan = %v, %v", l, e)
	}
	for _, x := range [][3]int64{{-1, 0, 1}, {0, -1, 1}, {0, 2, 1}, {0, 0, top + 1}} {
		if l, e := s.Rollup(int(x[0]), x[1], x[2]); len(l) > 0 || e != api.ErrArg {
			t.Errorf("Rollup = %v, %v", l, e)
		}
	}
}

func TestP18_4Runs(t *testing.T) {
	f := laid(t, example(), 1, 0, run{0, batch("a", 35, 1)}, run{0, batch("a", 12, 1)}, run{1, batch("b", 25, 1)}, run{3, block("c", 20)})
	s := opened(t, f, example())
	for _, x := range []struct {
		mark  int64
		stale []bool
	}{{29, []bool{false, false, false, false}}, {30, []bool{false, false, false, true}}, {40, []bool{false, true, false, true}}, {50, []bool{false, true, true, true}}, {60, []bool{true, true, true, true}}} {
		fine(t, s.Advance(x.mark))
		want := []pick.Run{{File: 13, Count: 1, Stale: x.stale[0]}, {File: 12, Count: 1, Stale: x.stale[1]}, {File: 11, Level: 1, Count: 1, Stale: x.stale[2]}, {File: 10, Level: 3, Count: 20, Stale: x.stale[3]}}
		if got := s.Runs(); !slices.Equal(got, want) || s.Mark() != x.mark {
			t.Errorf("at %d: %v; want %v", x.mark, got, want)
		}
		clear(s.Runs())
	}
	fine(t, f.Fail(0, api.ErrIO))
	is(t, "Sync", s.Sync(), api.ErrIO)
	if len(s.Runs()) != 4 || s.Mark() != 60 || !s.ReadOnly() {
		t.Errorf("read only: %v, %v, %v", s.Runs(), s.Mark(), s.ReadOnly())
	}
}

func TestP1AnswersAreNewMemory(t *testing.T) {
	s := opened(t, disk(t), example())
	fine(t, s.Ingest([]api.Fact{fact("a,x", 5, 1), fact("a,y", 6, 1)}, 1))
	fine(t, s.Flush())
	fine(t, s.Ingest(batch("a,x", 5, 2), 1))
	facts := []api.Fact{fact("a,x", 5, 1), fact("a,y", 6, 1), fact("a,x", 5, 2)}
	one, _, _ := s.Get([]string{"a", "x"}, 5)
	rows, _ := s.Scan(nil, 0, 10)
	sums, _ := s.Rollup(3, 0, 10)
	for _, x := range append(append(rows, sums...), one) {
		for i := range x.Dims {
			x.Dims[i] = "turned"
		}
	}
	answers(t, "turned", s, example(), facts)
}

// TestP1AnotherStoreHasTheFiles uses a store whose files another one has taken over.
func TestP1AnotherStoreHasTheFiles(t *testing.T) {
	f, old, facts := flushing(t)
	s := opened(t, f, example())
	for range 4 {
		old.Flush()
		old.Step()
		answers(t, "the old one", old, example(), facts)
		answers(t, "the new one", s, example(), facts)
	}
	if e := old.Ingest(batch("z", 1, 1), 1); e == api.OK {
		t.Errorf("the old one takes a batch into a segment that is not there")
	}
	for range 4 {
		fine(t, s.Ingest(batch("d", 9, 9), 1))
		facts = append(facts, fact("d", 9, 9))
		for range 3 {
			s.Flush()
		}
	}
	answers(t, "the new one", s, example(), facts)
	fine(t, s.Close())
	answers(t, "opened again", opened(t, f, example()), example(), facts)
}

func TestP1FilesAreGone(t *testing.T) {
	f, s, facts := flushing(t)
	for _, name := range f.List() {
		fine(t, f.Remove(name))
	}
	answers(t, "without files", s, example(), facts)
	s.Step()
	s.Flush()
	is(t, "Flush", s.Flush(), api.ErrReadOnly)
	answers(t, "without files", s, example(), facts)
	is(t, "Close", s.Close(), api.OK)
}
