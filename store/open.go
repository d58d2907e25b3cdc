package store

import (
	"math/bits"
	"slices"

	"rickyard/api"
	"rickyard/fold"
	"rickyard/grain"
	"rickyard/manifest"
	"rickyard/simfs"
	"rickyard/skip"
	"rickyard/table"
	"rickyard/wal"
)

const (
	manyRuns  = maxRuns - 1      // so many leave no room for one more, and one more flush
	manyFiles = api.MaxFiles / 2 // far more than a store's files are
)

// Open opens a store.
func Open(f *simfs.FS, r api.Rules) (*Store, api.Errno) {
	if !grain.Right(r) {
		return nil, api.ErrRules
	}
	if f == nil {
		return nil, api.ErrNil
	}
	rules := api.Rules{Grans: slices.Clone(r.Grans), Keep: r.Keep}
	s := &Store{files: f, rules: rules, list: skip.New(), tables: map[int]*table.Table{}}
	for _, do := range []func() api.Errno{s.load, s.read, s.relieve, s.replay, s.settle} {
		if e := do(); e != api.OK {
			return nil, e
		}
	}
	return s, api.OK
}

// load loads the state, or begins with one without runs.
func (s *Store) load() api.Errno {
	state, number, e := manifest.Load(s.files)
	if e == api.ErrNone {
		state, e = manifest.State{Log: 1, Next: 2}, api.OK
	}
	s.state, s.number, s.mark = state, number, state.Mark
	s.next = max(state.Next, greatest(s.files.List())+1)
	return e
}

// read reads the runs' tables. That all are whole is asked ahead of whether they fit.
func (s *Store) read() api.Errno {
	for _, r := range s.state.Runs {
		b, _ := s.files.Read(wal.Name(runFile, r.File)) // where there is no such file, there is no table either
		t, e := table.Open(b)
		if e != api.OK || t.Len() != r.Count {
			return api.ErrCorrupt
		}
		s.tables[r.File] = t
	}
	for _, r := range s.state.Runs {
		if !fold.Fits(s.rules, s.tables[r.File].All()) {
			return api.ErrRules
		}
	}
	return api.OK
}

// relieve removes what crash after crash, each within Open, has left, ahead of all names being taken by it.
func (s *Store) relieve() api.Errno {
	if len(s.files.List()) <= manyFiles {
		return api.OK
	}
	if s.number > 0 {
		// Edits that are not sure could be gone behind the next crash, and the state of ahead of them needs other files.
		if e := s.files.Sync(wal.Name(stateFile, s.number)); e != api.OK {
			return e
		}
	}
	s.sweep()
	return api.OK
}

// replay does the records of the segments that count.
func (s *Store) replay() api.Errno {
	for _, n := range s.counting() {
		records, e := wal.Replay(s.files, n)
		if e != api.OK {
			return e
		}
		for i, r := range records {
			s.mark = max(s.mark, r.Mark) // a batch's is less than any
			if len(r.Facts) == 0 {
				continue
			}
			if e := s.put(r.Facts, towerOf(i)); e != api.OK {
				return e
			}
		}
	}
	return api.OK
}

// settle makes a run of what is in the list, and a state of its own for what is there now; all other files go.
func (s *Store) settle() api.Errno {
	c := change{entries: s.folded(s.list.All()), segment: true, whole: true}
	if len(c.entries) > 0 && len(s.state.Runs) >= manyRuns {
		c.drop = s.lowest()
		c.entries = s.folded(append(s.entriesOf(c.drop), c.entries)...)
	}
	if len(c.entries) > api.MaxEntries {
		return api.ErrFull
	}
	if e := s.perform(c); e != api.OK {
		return e
	}
	s.sweep()
	return api.OK
}

// lowest is the files of the runs of level 0.
func (s *Store) lowest() []int {
	var files []int
	for _, r := range s.state.Runs {
		if r.Level == 0 {
			files = append(files, r.File)
		}
	}
	return files
}

// counting is the numbers of the segments that still count, rising.
func (s *Store) counting() []int {
	var numbers []int
	for _, name := range s.files.List() {
		if n, ok := wal.Number(segmentFile, name); ok && n >= s.state.Log {
			numbers = append(numbers, n)
		}
	}
	slices.Sort(numbers)
	return numbers
}

// sweep removes all files but those that the state needs.
func (s *Store) sweep() {
	var others []string
	for _, name := range s.files.List() {
		if !s.needs(name) {
			others = append(others, name)
		}
	}
	s.discard(others...)
}

// needs tells whether a file is one of the state's. Segments behind its own, which an Open started that came to nothing, count as far as they have records.
func (s *Store) needs(name string) bool {
	if name == pointer || name == wal.Name(stateFile, s.number) {
		return true
	}
	if n, ok := wal.Number(segmentFile, name); ok {
		records, _ := wal.Replay(s.files, n)
		return n == s.state.Log || n > s.state.Log && len(records) > 0
	}
	n, ok := wal.Number(runFile, name)
	return ok && s.tables[n] != nil
}

// greatest is the greatest number that a file has, 0 if none has one.
func greatest(names []string) int {
	most := 0
names:
	for _, name := range names {
		for _, kind := range [...]string{runFile, segmentFile, stateFile} {
			if n, ok := wal.Number(kind, name); ok {
				most = max(most, n)
				continue names // it is of no other kind
			}
		}
	}
	return most
}

// towerOf is how high the towers of a record's entries are, so that of so many on a level half as many are on the next one.
func towerOf(record int) int {
	return 1 + min(bits.TrailingZeros(uint(record+1)), api.MaxTower-1)
}
