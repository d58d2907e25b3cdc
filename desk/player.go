package desk

import (
	"cmp"
	"strconv"
	"strings"

	"rickyard/api"
	"rickyard/ask"
	"rickyard/simfs"
	"rickyard/store"
)

const (
	room     = 1 << 24 // of a script's file system
	maxFacts = 64      // of the batch that waits
)

// player plays lines in a store.
type player struct {
	rules api.Rules
	files *simfs.FS
	store *store.Store
	batch []api.Fact // waits
}

// begun is a player with a store on a new file system.
func begun(r api.Rules) (*player, api.Errno) {
	f, e := simfs.New(room)
	if e != api.OK {
		return nil, e
	}
	s, e := store.Open(f, r)
	if e != api.OK {
		return nil, e
	}
	return &player{rules: r, files: f, store: s}, api.OK
}

// told does what a line says, and is what is told of it.
func (p *player) told(text string) string {
	x, e := read(text)
	if e != api.OK {
		return failed(e)
	}
	more, e := p.do(x)
	if e != api.OK {
		return failed(e)
	}
	return "ok" + more
}

// failed is what is told of an error.
func failed(e api.Errno) string { return "error " + strconv.Itoa(int(e)) }

// do does what a line says, and is what is told behind ok.
func (p *player) do(x line) (string, api.Errno) {
	n := x.numbers
	switch x.word {
	case "fact":
		return "", p.wait(api.Fact{Dims: x.dims, At: n[0], Value: n[1]})
	case "ingest":
		return "", p.ingest(int(n[0]))
	case "sync":
		return "", p.store.Sync()
	case "flush":
		return "", p.store.Flush()
	case "step":
		return p.step()
	case "mark":
		return "", p.store.Advance(n[0])
	case "open":
		return "", p.open()
	case "get":
		return p.get(x.dims, n[0])
	case "scan":
		return rows(p.store.Scan(x.dims, n[0], n[1]))
	case "rollup":
		return rows(p.store.Rollup(int(n[0]), n[1], n[2]))
	}
	return p.runs(), api.OK
}

// wait puts a fact into the batch that waits. Whether it may be is asked when the batch is ingested.
func (p *player) wait(x api.Fact) api.Errno {
	if len(p.batch) >= maxFacts {
		return api.ErrFull
	}
	p.batch = append(p.batch, x)
	return api.OK
}

// ingest takes the batch that waits in. It waits no more, whatever came of it: one that is refused would be in the way for good.
func (p *player) ingest(height int) api.Errno {
	batch := p.batch
	p.batch = nil
	return p.store.Ingest(batch, height)
}

// step tells whether something was put together.
func (p *player) step() (string, api.Errno) {
	did, e := p.store.Step()
	if did {
		return " yes", e
	}
	return " no", e
}

// open closes the store, and opens it again, whatever came of closing.
func (p *player) open() api.Errno {
	closed := p.store.Close()
	s, e := store.Open(p.files, p.rules)
	p.store = s
	return cmp.Or(closed, e)
}

// get tells the row of a time, if there is one.
func (p *player) get(dims []string, t int64) (string, api.Errno) {
	x, ok, e := p.store.Get(dims, t)
	if !ok {
		return "", e
	}
	return rows([]ask.Row{x}, e)
}

// runs tells the runs.
func (p *player) runs() string {
	var all strings.Builder
	for _, r := range p.store.Runs() {
		all.WriteString(" " + strconv.Itoa(r.Level) + "/" + strconv.Itoa(r.Count))
		if r.Stale {
			all.WriteByte('*')
		}
	}
	return all.String()
}

// rows tells rows, or what forbade them.
func rows(l []ask.Row, e api.Errno) (string, api.Errno) {
	var all strings.Builder
	for _, x := range l {
		all.WriteString(" " + Row(x))
	}
	return all.String(), e
}
