package desk

import (
	"testing"

	"rickyard/api"
	"rickyard/simfs"
	"rickyard/wal"
)

// newPlayer is a player at its beginning.
func newPlayer(t *testing.T) *player {
	t.Helper()
	p, e := begun(example())
	if e != api.OK {
		t.Fatal(e)
	}
	return p
}

// plays holds what a player tells against what it should: a row of pairs.
func plays(t *testing.T, p *player, pairs ...string) {
	t.Helper()
	for i := 0; i < len(pairs); i += 2 {
		if got := p.told(pairs[i]); got != pairs[i+1] {
			t.Errorf("%q: %q; want %q", pairs[i], got, pairs[i+1])
		}
	}
}

// fill fills the files of a file system, and is how many bytes they took.
func fill(t *testing.T, f *simfs.FS) int {
	t.Helper()
	ahead := f.Used()
	for i, size := 1, api.MaxFile; size > 0; i++ {
		name := wal.Name("more-", i)
		if e := f.Create(name); e != api.OK {
			t.Fatal(e)
		}
		for size > 0 && f.Append(name, make([]byte, size)) == api.ErrSpace {
			size /= 2
		}
	}
	return f.Used() - ahead
}

func TestP20_2Room(t *testing.T) {
	p := newPlayer(t)
	ahead := p.files.Used()
	if got := fill(t, p.files); got != 1<<24-ahead {
		t.Errorf("%d bytes beside %d", got, ahead)
	}
}

func TestP20_2SyncAndOpenMakeSure(t *testing.T) {
	for line, want := range map[string]string{"sync": "ok a/1/1/1/5/5/5", "flush": "ok a/1/1/1/5/5/5", "open": "ok a/1/1/1/5/5/5", "runs": "ok"} {
		p := newPlayer(t)
		plays(t, p, "fact a 1 5", "ok", "ingest 1", "ok", line, "ok")
		if e := p.files.Crash(0, nil); e != api.OK {
			t.Fatal(e)
		}
		again, e := begun(example())
		if e != api.OK {
			t.Fatal(e)
		}
		again.files = p.files
		plays(t, again, "open", "ok", "get a 1", want)
	}
}

func TestP20_2OpenCloses(t *testing.T) {
	p := newPlayer(t)
	ahead := p.store
	plays(t, p, "open", "ok")
	if e := ahead.Sync(); e != api.ErrClosed || p.store == ahead {
		t.Errorf("the store of ahead: %v", e)
	}
}

func TestP8WhatFailsIsTold(t *testing.T) {
	for _, line := range []string{"sync", "ingest 1", "mark 9"} {
		p := newPlayer(t)
		plays(t, p, "fact a 1 5", "ok", "ingest 1", "ok", "fact a 2 7", "ok")
		if e := p.files.Fail(0, api.ErrIO); e != api.OK {
			t.Fatal(e)
		}
		plays(t, p, line, "error 82", "sync", "error 112", "flush", "error 112", "step", "error 112", "mark 9", "error 112", "ingest 1", "error 112", "scan - 0 9", "ok a/1/1/1/5/5/5")
		plays(t, p, "open", "ok", "scan - 0 9", "ok a/1/1/1/5/5/5", "fact a 1 1", "ok", "ingest 1", "ok", "get a 1", "ok a/1/1/2/6/1/5")
	}
}
