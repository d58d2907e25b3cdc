package desk

import (
	"fmt"
	"slices"
	"strings"
	"testing"

	"rickyard/api"
	"rickyard/feed"
)

func TestP20_2TenExamples(t *testing.T) {
	play(t,
		"fact a 12 3", "ok", "fact a 15 4", "ok", "fact b 45 1", "ok", "ingest 1", "ok",
		"get a 12", "ok a/12/1/1/3/3/3",
		"scan - 0 1000", "ok a/12/1/1/3/3/3 a/15/1/1/4/4/4 b/45/1/1/1/1/1",
		"mark 50", "ok", "get a 12", "ok a/10/10/2/7/3/4",
		"get b 45", "ok b/45/1/1/1/1/1",
		"rollup 0 0 1000", "ok -/0/1000/3/8/1/4",
		"flush", "ok", "runs", "ok 0/2",
		"mark 130", "ok", "runs", "ok 0/2*", "step", "ok yes", "runs", "ok 0/1",
		"scan - 0 1000", "ok b/40/10/1/1/1/1",
		"mark 100", "error 111", "get a", "error 120",
		"open", "ok", "scan - 0 1000", "ok b/40/10/1/1/1/1", "runs", "ok 0/1", "get a 12", "ok", "get b 45", "ok b/40/10/1/1/1/1",
	)
	play(t, "fact a 12 3", "ok", "ingest 1", "ok", "get a 12", "ok a/12/1/1/3/3/3", "mark 50", "ok", "get a 15", "ok a/10/10/1/3/3/3")
}

func TestP8ScriptsTellWhatStoresTell(t *testing.T) {
	m := &made{1}
	for _, r := range rights() {
		for _, many := range []int{50, 50, 50, 300, 300, 300, 1000, api.MaxScript} {
			acts := madeActs(m, many, 40+m.below(400))
			told := run(t, r, linesOf(acts)...)
			h := newHand(t, r)
			for i, x := range acts {
				if want := x.do(h); told[i] != want {
					t.Fatalf("line %d of %d, %q: %q; want %q", i+1, many, x.line, told[i], want)
				}
			}
		}
	}
}

// tasks is what is done in a store: batches of facts, and what changes no answer.
func tasks(m *made, many int) []func(h *hand) api.Errno {
	var l []func(h *hand) api.Errno
	for range many {
		var batch []api.Fact
		for range 1 + m.below(api.MaxBatch) {
			_, dims := dimsOf(m.below(1000))
			batch = append(batch, api.Fact{Dims: dims, At: int64(m.below(300)), Value: int64(m.below(2000) - 1000)})
		}
		height := 1 + m.below(api.MaxTower)
		l = append(l, func(h *hand) api.Errno { return h.s.Ingest(batch, height) })
		keep := keepAct(m)
		l = append(l, func(h *hand) api.Errno {
			if told := keep.do(h); !strings.HasPrefix(told, "ok") {
				return api.ErrState
			}
			return api.OK
		})
	}
	return l
}

// answersOf is what a store tells at some marks, from its own on.
func answersOf(t *testing.T, h *hand) []string {
	t.Helper()
	var out []string
	for _, w := range []int64{0, 60, 130, 400} {
		if e := h.s.Advance(w); e != api.OK {
			t.Fatal(e)
		}
		rows, e := h.s.Scan(nil, 0, api.MaxTime)
		out = append(out, tells(rowTexts(rows), e))
		for mask := range 4 {
			rows, e = h.s.Rollup(mask, 0, 200)
			out = append(out, tells(rowTexts(rows), e))
		}
	}
	return out
}

// through does tasks through a feed: some are put, as long as there is room, then some are taken and done, till all are.
func through(t *testing.T, m *made, f *feed.Feed, h *hand, l []func(h *hand) api.Errno) []int {
	t.Helper()
	var order []int
	put := 0
	for {
		for put < len(l) && m.below(5) > 0 {
			if e := f.Put(put, m.below(3) == 0); e == api.ErrFull {
				break
			} else if e != api.OK {
				t.Fatal(e)
			}
			put++
		}
		if put == len(l) {
			f.Close()
		}
		for put == len(l) || m.below(4) > 0 {
			v, _, e := f.Take()
			if e == api.ErrNone && put == len(l) {
				return order
			}
			if e == api.ErrNone {
				break
			}
			order = append(order, v)
			if e := l[v](h); e != api.OK {
				t.Fatal(e)
			}
		}
	}
}

func TestP8FeedsEndWithTheSameAnswers(t *testing.T) {
	m := &made{23}
	for _, r := range rights() {
		for _, room := range []int{1, 2, 7, api.MaxFeed} {
			l := tasks(m, 30)
			straight := newHand(t, r)
			for _, do := range l {
				if e := do(straight); e != api.OK {
					t.Fatal(e)
				}
			}
			f, e := feed.New(room)
			if e != api.OK {
				t.Fatal(e)
			}
			fed := newHand(t, r)
			order := through(t, m, f, fed, l)
			if room > 2 && slices.IsSorted(order) {
				t.Errorf("nothing urgent was done ahead of others")
			}
			slices.Sort(order)
			if len(order) != len(l) || order[0] != 0 || len(slices.Compact(order)) != len(l) {
				t.Errorf("%d of %d tasks were done", len(order), len(l))
			}
			if got, want := answersOf(t, fed), answersOf(t, straight); !slices.Equal(got, want) {
				t.Errorf("through a feed with room for %d: %q; want %q", room, got, want)
			}
		}
	}
}

func TestP1AnyScript(t *testing.T) {
	m := &made{31}
	words := []string{"fact", "ingest", "sync", "flush", "step", "mark", "open", "get", "scan", "rollup", "runs", "a", "a,b", "-", "0", "1", "5", "17", "-1", "99999999999999999999", "4611686018427387903", "", ",", "\n", "\n", "\n", "\x00", "é", "\xff"}
	for range 300 {
		var s strings.Builder
		for range m.below(400) {
			s.WriteString(words[m.below(len(words))])
			s.WriteString([]string{" ", " ", " ", "\n", "", "  "}[m.below(6)])
		}
		text := s.String()
		many := strings.Count(text, "\n")
		if text != "" && !strings.HasSuffix(text, "\n") {
			many++
		}
		told, e := Run(example(), text)
		if e != api.OK || strings.Count(told, "\n") != many {
			t.Fatalf("Run(%q) = %q, %v", text, told, e)
		}
		for line := range strings.Lines(told) {
			if !strings.HasPrefix(line, "ok") && !strings.HasPrefix(line, "error ") {
				t.Fatalf("%q of %q", line, text)
			}
		}
	}
}

func TestP1LongLines(t *testing.T) {
	const many = 1 << 20
	play(t,
		strings.Repeat("a", many), "error 120",
		strings.Repeat(" ", many), "error 120",
		"mark "+strings.Repeat("9", many), "error 120",
		"mark "+strings.Repeat("0", many), "error 120",
		"get "+strings.Repeat("a", many)+" 1", "error 110",
		"get "+strings.Repeat("a,", many)+"a 1", "error 110",
		"get "+strings.Repeat("a,", many)+" 1", "error 120",
		"fact "+strings.Repeat("a,", many)+"a 1 1", "ok",
		"ingest 1", "error 110",
		"runs", "ok",
	)
}

func TestP20_2AsManyFactsAsAScriptHas(t *testing.T) {
	var lines []string
	facts := 0
	for len(lines)+api.MaxBatch+4 <= api.MaxScript {
		for range api.MaxBatch {
			facts++
			lines = append(lines, fmt.Sprintf("fact aaaaaaaaaaaaaaaa,bbbbbbbbbbbbbbbb,cccccccccccccccc,%d %d 1", facts, facts%100))
		}
		lines = append(lines, "ingest 3")
	}
	lines = append(lines, "flush", "step", "rollup 0 0 1000")
	told := run(t, example(), lines...)
	want := fmt.Sprintf("ok -/0/1000/%d/%d/1/1", facts, facts)
	if got := told[len(told)-1]; got != want || facts < 1900 {
		t.Errorf("%q; want %q", got, want)
	}
}
