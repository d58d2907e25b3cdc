package store

import (
	"cmp"
	"fmt"
	"maps"
	"slices"
	"strings"
	"testing"

	"rickyard/agg"
	"rickyard/api"
	"rickyard/ask"
	"rickyard/key"
	"rickyard/manifest"
	"rickyard/simfs"
	"rickyard/wal"
)

const top = api.MaxTime

// some is the next number of a row that is made by a rule.
func some(x uint32) uint32 {
	return x*1664525 + 1013904223
}

// example is the rules of the document's examples.
func example() api.Rules {
	return api.Rules{Grans: []api.Gran{{Size: 1}, {Size: 10, Age: 20}}, Keep: 100}
}

// rights is right rules.
func rights() []api.Rules {
	return []api.Rules{
		example(),
		{Grans: []api.Gran{{Size: 1}, {Size: 10, Age: 20}, {Size: 60, Age: 100}}, Keep: 200},
		{Grans: []api.Gran{{Size: 3}, {Size: 6, Age: 5}, {Size: 30, Age: 5}, {Size: 60, Age: 9}}, Keep: 9},
		{Grans: []api.Gran{{Size: 1}}, Keep: 40},
		{Grans: []api.Gran{{Size: 7}}, Keep: 2 * top},
	}
}

// list is texts parted by commas; an empty text is no text.
func list(s string) []string {
	if s == "" {
		return nil
	}
	return strings.Split(s, ",")
}

// fact is a fact of dimensions (parted by commas).
func fact(dims string, at, value int64) api.Fact {
	return api.Fact{Dims: list(dims), At: at, Value: value}
}

// batch is one fact.
func batch(dims string, at, value int64) []api.Fact {
	return []api.Fact{fact(dims, at, value)}
}

// disk is a new file system.
func disk(t *testing.T) *simfs.FS {
	t.Helper()
	f, e := simfs.New(1 << 24)
	if e != api.OK {
		t.Fatal(e)
	}
	return f
}

// opened is a store that is open.
func opened(t *testing.T, f *simfs.FS, r api.Rules) *Store {
	t.Helper()
	s, e := Open(f, r)
	if s == nil || e != api.OK {
		t.Fatalf("Open: %v, %v", s, e)
	}
	return s
}

// fine ends a test where there is an error.
func fine(t *testing.T, e api.Errno) {
	t.Helper()
	if e != api.OK {
		t.Fatal(e)
	}
}

// is tells of an error that is another one than it should be.
func is(t *testing.T, name string, got, want api.Errno) {
	t.Helper()
	if got != want {
		t.Errorf("%s: %v; want %v", name, got, want)
	}
}

func sameRow(a, b ask.Row) bool {
	return slices.Equal(a.Dims, b.Dims) && a.From == b.From && a.Size == b.Size && a.Agg == b.Agg
}

func same(a, b []ask.Row) bool {
	return slices.EqualFunc(a, b, sameRow)
}

// end is where the bucket of a time ends.
func end(t, size int64) int64 {
	return (t/size + 1) * size
}

// gathered is rows by their dimensions and buckets, those of the same ones together, in their order.
func gathered(l []ask.Row) []ask.Row {
	all := map[string]ask.Row{}
	for _, x := range l {
		text := fmt.Sprintf("%q %d %d", x.Dims, x.From, x.Size)
		x.Agg = agg.Merge(all[text].Agg, x.Agg)
		all[text] = x
	}
	return slices.SortedFunc(maps.Values(all), func(a, b ask.Row) int {
		return cmp.Or(slices.Compare(a.Dims, b.Dims), cmp.Compare(a.From, b.From))
	})
}

// plain is the rows of facts at a mark, reckoned fact by fact.
func plain(r api.Rules, w int64, facts []api.Fact) []ask.Row {
	var rows []ask.Row
	for _, x := range facts {
		size := r.Grans[0].Size
		for _, g := range r.Grans {
			if end(x.At, g.Size) <= w-g.Age {
				size = g.Size
			}
		}
		if end(x.At, r.Grans[len(r.Grans)-1].Size) > w-r.Keep {
			rows = append(rows, ask.Row{Dims: x.Dims, From: end(x.At, size) - size, Size: size, Agg: agg.One(x.Value)})
		}
	}
	return gathered(rows)
}

// plainRollup is rows by a part of their dimensions.
func plainRollup(rows []ask.Row, mask int, from, to int64) []ask.Row {
	var out []ask.Row
	for _, x := range rows {
		if x.From >= from && x.From < to {
			part, _ := key.Part(x.Dims, mask)
			out = append(out, ask.Row{Dims: part, From: from, Size: to - from, Agg: x.Agg})
		}
	}
	return gathered(out)
}

// tells tells whether a store's answers to a scan of all are those of facts, at its mark.
func tells(s *Store, r api.Rules, facts []api.Fact) bool {
	rows, e := s.Scan(nil, 0, top)
	return e == api.OK && same(rows, plain(r, s.Mark(), facts))
}

// answers holds a store's answers against those of facts, at its mark.
func answers(t *testing.T, name string, s *Store, r api.Rules, facts []api.Fact) {
	t.Helper()
	want := plain(r, s.Mark(), facts)
	if rows, e := s.Scan(nil, 0, top); e != api.OK || !same(rows, want) {
		t.Fatalf("%s: Scan = %v, %v; want %v", name, rows, e, want)
	}
	for mask := range 4 {
		sums := plainRollup(want, mask, 5, 900)
		if rows, e := s.Rollup(mask, 5, 900); e != api.OK || !same(rows, sums) {
			t.Fatalf("%s: Rollup = %v, %v; want %v", name, rows, e, sums)
		}
	}
	for i := 0; i < len(facts); i += 1 + len(facts)/6 {
		x := facts[i]
		at := slices.IndexFunc(want, func(y ask.Row) bool {
			return slices.Equal(y.Dims, x.Dims) && y.From <= x.At && x.At < y.From+y.Size
		})
		got, ok, e := s.Get(x.Dims, x.At)
		if e != api.OK || ok != (at >= 0) || ok && !sameRow(got, want[at]) {
			t.Fatalf("%s: Get of %v = %v, %v, %v; want %v", name, x, got, ok, e, want)
		}
	}
}

// lists is the facts of batches.
func lists(batches [][]api.Fact) []api.Fact {
	return slices.Concat(batches...)
}

// stateFiles is the names of the files that a state needs, as the file system tells it.
func stateFiles(t *testing.T, f *simfs.FS) []string {
	t.Helper()
	state, n, e := manifest.Load(f)
	if e != api.OK {
		t.Fatalf("Load: %v", e)
	}
	names := []string{"current", wal.Name("man-", n), wal.Name("wal-", state.Log)}
	for _, r := range state.Runs {
		names = append(names, wal.Name("run-", r.File))
	}
	slices.Sort(names)
	return names
}

// tidy tells of files that are none of the state's.
func tidy(t *testing.T, name string, f *simfs.FS) {
	t.Helper()
	if got, want := f.List(), stateFiles(t, f); !slices.Equal(got, want) {
		t.Errorf("%s: files %v; want %v", name, got, want)
	}
}

// image is all names with their files' bytes.
func image(f *simfs.FS) string {
	var out strings.Builder
	for _, name := range f.List() {
		b, _ := f.Read(name)
		out.WriteString(name + "=" + string(b) + ";")
	}
	return out.String()
}

// levels is the levels and counts of a store's runs.
func levels(s *Store) [][2]int {
	var out [][2]int
	for _, r := range s.Runs() {
		out = append(out, [2]int{r.Level, r.Count})
	}
	return out
}

// settled does what Step does, as long as there is something.
func settled(t *testing.T, s *Store) {
	t.Helper()
	most := len(s.Runs()) + 3
	for range most + 1 {
		did, e := s.Step()
		fine(t, e)
		if !did {
			return
		}
	}
	t.Fatalf("more than %d steps", most)
}

// madeFacts is facts made by a rule, of times up to a most.
func madeFacts(x uint32, many int, most int64) ([]api.Fact, uint32) {
	all := []string{"", "a", "b", "a,x", "a,y", "b,x", "ab", "a,x,q", "a,x,q,a"}
	var l []api.Fact
	for range many {
		x = some(x)
		dims := all[x>>20%uint32(len(all))]
		x = some(x)
		at := int64(x>>8) % most
		x = some(x)
		l = append(l, fact(dims, at, int64(int32(x))))
	}
	return l, x
}
