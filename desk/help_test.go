package desk

import (
	"fmt"
	"math/big"
	"strings"
	"testing"

	"rickyard/api"
	"rickyard/ask"
	"rickyard/simfs"
	"rickyard/store"
)

// some is the next number of a row that is made by a rule.
func some(x uint32) uint32 {
	return x*1664525 + 1013904223
}

// made is numbers made by a rule.
type made struct{ x uint32 }

// below is the next number, from 0 to n - 1.
func (m *made) below(n int) int {
	m.x = some(m.x)
	return int(m.x>>8) % n
}

// example is the rules of the document's examples.
func example() api.Rules {
	return api.Rules{Grans: []api.Gran{{Size: 1}, {Size: 10, Age: 20}}, Keep: 100}
}

// rights is right rules.
func rights() []api.Rules {
	return []api.Rules{
		example(),
		{Grans: []api.Gran{{Size: 1}, {Size: 10, Age: 20}, {Size: 60, Age: 100}}, Keep: 200},
		{Grans: []api.Gran{{Size: 3}, {Size: 6, Age: 5}, {Size: 30, Age: 5}, {Size: 60, Age: 9}}, Keep: 9},
		{Grans: []api.Gran{{Size: 7}}, Keep: 2 * api.MaxTime},
	}
}

// script is lines as one text.
func script(lines ...string) string {
	return strings.Join(lines, "\n") + "\n"
}

// run plays lines, and is what is told, a text for each line.
func run(t *testing.T, r api.Rules, lines ...string) []string {
	t.Helper()
	all, e := Run(r, script(lines...))
	if e != api.OK {
		t.Fatalf("Run: %v", e)
	}
	told := strings.SplitAfter(all, "\n")
	if len(told) != len(lines)+1 || told[len(lines)] != "" {
		t.Fatalf("%d lines tell %d: %q", len(lines), len(told)-1, all)
	}
	for i := range lines {
		told[i] = strings.TrimSuffix(told[i], "\n")
	}
	return told[:len(lines)]
}

// play plays lines by the document's rules, each told as is said behind it: a row of pairs.
func play(t *testing.T, pairs ...string) {
	t.Helper()
	var lines []string
	for i := 0; i < len(pairs); i += 2 {
		lines = append(lines, pairs[i])
	}
	for i, got := range run(t, example(), lines...) {
		if got != pairs[2*i+1] {
			t.Errorf("line %d, %q: %q; want %q", i+1, lines[i], got, pairs[2*i+1])
		}
	}
}

// batchLines is the lines of one batch.
func batchLines(height int, facts ...string) []string {
	var lines []string
	for _, x := range facts {
		lines = append(lines, "fact "+x)
	}
	return append(lines, fmt.Sprintf("ingest %d", height))
}

// sumOf is a number of 128 digits as a text.
func sumOf(a api.Wide) string {
	x := new(big.Int).Lsh(big.NewInt(a.Hi), 64)
	return x.Add(x, new(big.Int).SetUint64(a.Lo)).String()
}

// rowText is a row, written another way.
func rowText(x ask.Row) string {
	dims, over := strings.Join(x.Dims, ","), ""
	if len(x.Dims) == 0 {
		dims = "-"
	}
	if x.Agg.Over {
		over = "+"
	}
	return fmt.Sprintf("%s/%d/%d/%d%s/%s/%d/%d", dims, x.From, x.Size, x.Agg.Count, over, sumOf(x.Agg.Sum), x.Agg.Min, x.Agg.Max)
}

// rowTexts is rows, each behind a blank.
func rowTexts(l []ask.Row) string {
	out := ""
	for _, x := range l {
		out += " " + rowText(x)
	}
	return out
}

// hand does by hand what a script does: the store's calls, one by one.
type hand struct {
	t     *testing.T
	r     api.Rules
	f     *simfs.FS
	s     *store.Store
	batch []api.Fact
}

// newHand is a hand with a store of its own.
func newHand(t *testing.T, r api.Rules) *hand {
	t.Helper()
	f, e := simfs.New(1 << 24)
	if e != api.OK {
		t.Fatal(e)
	}
	s, e := store.Open(f, r)
	if e != api.OK {
		t.Fatal(e)
	}
	return &hand{t: t, r: r, f: f, s: s}
}

// reopen closes the store, and opens it again.
func (h *hand) reopen() api.Errno {
	if e := h.s.Close(); e != api.OK {
		h.t.Fatalf("Close: %v", e)
	}
	s, e := store.Open(h.f, h.r)
	if e != api.OK {
		h.t.Fatalf("Open: %v", e)
	}
	h.s = s
	return e
}

// tells is the line of an error, or of ok and what is behind it.
func tells(more string, e api.Errno) string {
	if e != api.OK {
		return fmt.Sprintf("error %d", int(e))
	}
	return "ok" + more
}

// runsText is the runs as they are told.
func (h *hand) runsText() string {
	out := ""
	for _, x := range h.s.Runs() {
		out += fmt.Sprintf(" %d/%d", x.Level, x.Count)
		if x.Stale {
			out += "*"
		}
	}
	return out
}

// act is a line, and what a store by hand tells of it.
type act struct {
	line string
	do   func(h *hand) string
}

// plainAct is the line of a call that tells nothing but its error.
func plainAct(line string, do func(h *hand) api.Errno) act {
	return act{line, func(h *hand) string { return tells("", do(h)) }}
}

// dimsOf is dimensions, as a text and as a list.
func dimsOf(i int) (string, []string) {
	all := []string{"-", "a", "b", "a,x", "a,y", "b,x", "ab", "a,x,q", "a,x,q,a", "0", "z9,a0"}
	text := all[i%len(all)]
	if text == "-" {
		return text, nil
	}
	return text, strings.Split(text, ",")
}

// factAct puts a fact into the batch that waits.
func factAct(m *made, most int) act {
	text, dims := dimsOf(m.below(1000))
	x := api.Fact{Dims: dims, At: int64(m.below(most)), Value: int64(m.below(2000) - 1000)}
	return act{fmt.Sprintf("fact %s %d %d", text, x.At, x.Value), func(h *hand) string {
		if len(h.batch) == 64 {
			return "error 5"
		}
		h.batch = append(h.batch, x)
		return "ok"
	}}
}

// ingestAct takes the batch in.
func ingestAct(height int) act {
	return plainAct(fmt.Sprintf("ingest %d", height), func(h *hand) api.Errno {
		l := h.batch
		h.batch = nil
		return h.s.Ingest(l, height)
	})
}

// keepAct is one of the lines that change no answer.
func keepAct(m *made) act {
	switch m.below(4) {
	case 0:
		return plainAct("sync", func(h *hand) api.Errno { return h.s.Sync() })
	case 1:
		return plainAct("flush", func(h *hand) api.Errno { return h.s.Flush() })
	case 2:
		return plainAct("open", (*hand).reopen)
	}
	return act{"step", func(h *hand) string {
		did, e := h.s.Step()
		return tells(map[bool]string{true: " yes", false: " no"}[did], e)
	}}
}

// markAct moves the mark on, or back.
func markAct(m *made, most int) act {
	w := int64(m.below(most+2) - 1)
	return plainAct(fmt.Sprintf("mark %d", w), func(h *hand) api.Errno { return h.s.Advance(w) })
}

// askAct is a question.
func askAct(m *made, most int) act {
	text, dims := dimsOf(m.below(1000))
	a, b := int64(m.below(most+1)-1), int64(m.below(most+1)-1)
	switch m.below(4) {
	case 0:
		return act{fmt.Sprintf("get %s %d", text, a), func(h *hand) string {
			x, ok, e := h.s.Get(dims, a)
			if !ok {
				return tells("", e)
			}
			return tells(" "+rowText(x), e)
		}}
	case 1:
		return act{fmt.Sprintf("scan %s %d %d", text, a, b), func(h *hand) string {
			l, e := h.s.Scan(dims, a, b)
			return tells(rowTexts(l), e)
		}}
	case 2:
		mask := m.below(17) - 1
		return act{fmt.Sprintf("rollup %d %d %d", mask, a, b), func(h *hand) string {
			l, e := h.s.Rollup(mask, a, b)
			return tells(rowTexts(l), e)
		}}
	}
	return act{fmt.Sprintf("scan - 0 %d", api.MaxTime), func(h *hand) string {
		l, e := h.s.Scan(nil, 0, api.MaxTime)
		return tells(rowTexts(l), e)
	}}
}

// runsAct asks for the runs.
func runsAct() act {
	return act{"runs", func(h *hand) string { return "ok" + h.runsText() }}
}

// madeActs is so many acts, of times below most; the mark moves on slowly.
func madeActs(m *made, many, most int) []act {
	var l []act
	for i := range many {
		switch k := m.below(20); {
		case k < 9:
			l = append(l, factAct(m, most))
		case k < 12:
			l = append(l, ingestAct(1+m.below(api.MaxTower)))
		case k < 15:
			l = append(l, keepAct(m))
		case k < 16:
			l = append(l, markAct(m, 1+most*i/many))
		case k < 17:
			l = append(l, runsAct())
		default:
			l = append(l, askAct(m, most))
		}
	}
	return l
}

// linesOf is the lines of acts.
func linesOf(l []act) []string {
	var lines []string
	for _, x := range l {
		lines = append(lines, x.line)
	}
	return lines
}
