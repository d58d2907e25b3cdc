package store

import (
	"rickyard/api"
	"rickyard/manifest"
	"rickyard/skip"
	"rickyard/table"
	"rickyard/wal"
)

// What files' names begin with, ahead of their numbers, and the name of the one that points to the state's log.
const (
	runFile     = "run-"
	segmentFile = "wal-"
	stateFile   = "man-"
	pointer     = "current"
)

// change is what is to become of the state.
type change struct {
	entries []api.Entry // become a run, if there are any
	level   int         // of that run
	drop    []int       // runs that go
	segment bool        // whether a fresh one is started: what the list has is among the entries
	whole   bool        // whether the state is saved under a fresh number, or only its edit is appended
}

// perform writes the files that a change needs, then says so in the state's log, and only then forgets what was ahead:
// a crash in between finds all files of the state that counts, whichever that is.
func (s *Store) perform(c change) api.Errno {
	number, edit := s.numbered(c)
	state, e := manifest.Apply(s.state, edit)
	if e != api.OK {
		return api.ErrArg // only fresh numbers can be wrong: there is no such file
	}
	t, e := s.written(c.entries, edit)
	if e != api.OK {
		return e
	}
	log := s.log
	if c.segment {
		log, e = s.started(edit)
		if e != api.OK {
			return e
		}
	}
	if e := s.told(c, number, state, edit); e != api.OK {
		// The edit may be there or not, so all files stay that either state needs.
		s.readOnly = true
		return e
	}
	gone := s.outdated(c)
	s.state, s.number, s.log = state, number, log
	s.adopt(c, edit, t)
	s.discard(gone...)
	return api.OK
}

// numbered is a change as an edit, with fresh numbers for its files, and the number of the state's log.
func (s *Store) numbered(c change) (int, manifest.Edit) {
	number, edit := s.number, manifest.Edit{Drop: c.drop, Log: s.state.Log, Mark: s.mark}
	if len(c.entries) > 0 {
		edit.Add = []manifest.Run{{File: s.fresh(), Level: c.level, Count: len(c.entries)}}
	}
	if c.segment {
		edit.Log = s.fresh()
	}
	if c.whole {
		number = s.fresh()
	}
	edit.Next = s.next
	return number, edit
}

// fresh is a number that no file had.
func (s *Store) fresh() int {
	s.next++
	return s.next - 1
}

// written writes entries as the table of the run that an edit adds, if it adds one.
func (s *Store) written(entries []api.Entry, edit manifest.Edit) (*table.Table, api.Errno) {
	if len(edit.Add) == 0 {
		return nil, api.OK
	}
	b, e := table.Write(entries)
	if e != api.OK {
		return nil, e
	}
	t, e := table.Open(b)
	if e != api.OK {
		return nil, e
	}
	name := wal.Name(runFile, edit.Add[0].File)
	if e := s.files.Create(name); e != api.OK {
		return nil, e
	}
	if e := s.filled(name, b); e != api.OK {
		s.discard(name)
		return nil, e
	}
	return t, api.OK
}

// filled puts bytes into a new file, and makes them and its name sure.
func (s *Store) filled(name string, b []byte) api.Errno {
	if e := s.files.Append(name, b); e != api.OK {
		return e
	}
	if e := s.files.Sync(name); e != api.OK {
		return e
	}
	return s.files.SyncDir()
}

// started starts the segment that an edit names. Where that fails, the run that was written for the edit goes too.
func (s *Store) started(edit manifest.Edit) (*wal.Log, api.Errno) {
	log, e := wal.Start(s.files, edit.Log)
	if e == api.OK {
		return log, api.OK
	}
	if e != api.ErrExists { // else it is somebody else's
		s.discard(wal.Name(segmentFile, edit.Log))
	}
	for _, r := range edit.Add {
		s.discard(wal.Name(runFile, r.File))
	}
	return nil, e
}

// told says in the state's log what has changed.
func (s *Store) told(c change, number int, state manifest.State, edit manifest.Edit) api.Errno {
	if c.whole {
		return manifest.Save(s.files, number, state)
	}
	return manifest.Append(s.files, number, edit)
}

// outdated is the files that nobody needs any more behind a change.
func (s *Store) outdated(c change) []string {
	var names []string
	for _, file := range c.drop {
		names = append(names, wal.Name(runFile, file))
	}
	if c.segment {
		names = append(names, wal.Name(segmentFile, s.state.Log))
	}
	return names
}

// adopt makes the list and the tables those of the changed state.
func (s *Store) adopt(c change, edit manifest.Edit, t *table.Table) {
	for _, file := range c.drop {
		delete(s.tables, file)
	}
	for _, r := range edit.Add {
		s.tables[r.File] = t
	}
	if c.segment {
		s.list = skip.New()
	}
}

// discard removes files, and those that could not be removed when they were to be. What can't be removed now is kept in mind.
func (s *Store) discard(names ...string) {
	all := append(s.left, names...)
	s.left = nil
	for _, name := range all {
		if e := s.files.Remove(name); e != api.OK && e != api.ErrNone {
			s.left = append(s.left, name)
		}
	}
}
