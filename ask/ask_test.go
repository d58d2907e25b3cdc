package ask

import (
	"bytes"
	"math"
	"slices"
	"strings"
	"testing"

	"rickyard/agg"
	"rickyard/api"
	"rickyard/fold"
	"rickyard/key"
)

const top = api.MaxTime

// some is the next number of a row that is made by a rule.
func some(x uint32) uint32 {
	return x*1664525 + 1013904223
}

// rules is rules with these sizes and ages, one behind the other, and a Keep.
func rules(keep int64, pairs ...int64) api.Rules {
	r := api.Rules{Keep: keep}
	for i := 0; i < len(pairs); i += 2 {
		r.Grans = append(r.Grans, api.Gran{Size: pairs[i], Age: pairs[i+1]})
	}
	return r
}

// example is the rules of the document's examples.
func example() api.Rules {
	return rules(100, 1, 0, 10, 20)
}

// rights is right rules.
func rights() []api.Rules {
	return []api.Rules{example(), rules(200, 1, 0, 10, 20, 60, 100), rules(50, 7, 0), rules(3, 2, 0, 4, 0, 8, 0, 16, 0), rules(0, 1, 0)}
}

// list is texts parted by commas; an empty text is no text.
func list(s string) []string {
	if s == "" {
		return nil
	}
	return strings.Split(s, ",")
}

// entry is a key with what is known of some facts.
func entry(dims string, from int64, gran int, facts ...int64) api.Entry {
	b, e := key.Write(api.Key{Dims: list(dims), From: from, Gran: gran})
	if e != api.OK {
		panic("no key")
	}
	return api.Entry{Key: b, Agg: agg.Many(facts)}
}

// inOrder is entries in the order of their keys.
func inOrder(l ...api.Entry) []api.Entry {
	slices.SortFunc(l, func(a, b api.Entry) int { return bytes.Compare(a.Key, b.Key) })
	return l
}

// row is a row with what is known of some facts.
func row(dims string, from, size int64, facts ...int64) Row {
	return Row{Dims: list(dims), From: from, Size: size, Agg: agg.Many(facts)}
}

func sameRow(a, b Row) bool {
	return slices.Equal(a.Dims, b.Dims) && a.From == b.From && a.Size == b.Size && a.Agg == b.Agg
}

func same(a, b []Row) bool {
	return slices.EqualFunc(a, b, sameRow)
}

// known is entries of both steps of the example's rules: at a watermark of 0 they stay as they are.
func known() []api.Entry {
	return inOrder(
		entry("", 3, 0, 9), entry("", 20, 1, 4, 5), entry("", 25, 0, 6),
		entry("a", 12, 0, 3), entry("a", 15, 0, 4), entry("a", 10, 1, 1, 2), entry("a", 45, 0, 7),
		entry("a,x", 5, 0, 10), entry("a,y", 6, 0, 20), entry("a,y", 30, 1, 21), entry("ab", 5, 0, 30), entry("b", 45, 0, 1), entry("b,x,a", 0, 0, -5), entry("b,x,a,q", top, 0, 50),
	)
}

// gets holds an answer of Get against what is to be told; a row of the size 0 is none.
func gets(t *testing.T, r api.Rules, w int64, l []api.Entry, dims string, at int64, want Row) {
	t.Helper()
	got, ok, e := Get(r, w, l, list(dims), at)
	if e != api.OK || ok != (want.Size > 0) || !sameRow(got, want) {
		t.Errorf("Get of %q at %d, mark %d = %v, %v, %v; want %v", dims, at, w, got, ok, e, want)
	}
}

func TestP17_1Get(t *testing.T) {
	r, l := example(), known()
	gets(t, r, 0, l, "", 3, row("", 3, 1, 9))
	gets(t, r, 0, l, "a", 45, row("a", 45, 1, 7))
	gets(t, r, 0, l, "a,x", 5, row("a,x", 5, 1, 10))
	gets(t, r, 0, l, "b,x,a", 0, row("b,x,a", 0, 1, -5))
	gets(t, r, 0, l, "b,x,a,q", top, row("b,x,a,q", top, 1, 50))
	gets(t, r, 0, l, "a,y", 30, row("a,y", 30, 10, 21))
	gets(t, r, 0, l, "a,y", 39, row("a,y", 30, 10, 21))
	for _, x := range []struct {
		dims string
		at   int64
	}{{"", 2}, {"", 4}, {"", 19}, {"", 30}, {"a,y", 29}, {"a,y", 40}, {"a,x", 6}, {"x", 5}, {"a,x,y", 5}, {"ab", 45}, {"b", 5}, {"b,x", 0}, {"b,x,a,q", top - 1}} {
		gets(t, r, 0, l, x.dims, x.at, Row{})
	}
	gets(t, r, 0, nil, "a", 12, Row{})
	gets(t, r, top, l, "a", 12, Row{})
}

func TestP17_1CoarserBesideFiner(t *testing.T) {
	r, l := example(), known()
	gets(t, r, 0, l, "a", 12, row("a", 10, 10, 1, 2, 3))
	gets(t, r, 0, l, "a", 15, row("a", 10, 10, 1, 2, 4))
	gets(t, r, 0, l, "a", 11, row("a", 10, 10, 1, 2))
	gets(t, r, 0, l, "", 25, row("", 20, 10, 4, 5, 6))
	gets(t, r, 0, l, "", 20, row("", 20, 10, 4, 5))
	three := rules(200, 1, 0, 10, 20, 60, 100)
	deep := inOrder(entry("a", 60, 0, 1), entry("a", 60, 1, 2), entry("a", 60, 2, 3), entry("a", 70, 1, 4), entry("a", 79, 0, 5), entry("a", 120, 0, 6))
	gets(t, three, 0, deep, "a", 60, row("a", 60, 60, 1, 2, 3))
	gets(t, three, 0, deep, "a", 61, row("a", 60, 60, 2, 3))
	gets(t, three, 0, deep, "a", 79, row("a", 60, 60, 3, 4, 5))
	gets(t, three, 0, deep, "a", 119, row("a", 60, 60, 3))
	gets(t, three, 0, deep, "a", 120, row("a", 120, 1, 6))
}

// TestP17_1AtTheMark has the document's examples of the whole.
func TestP17_1AtTheMark(t *testing.T) {
	r := example()
	l := inOrder(entry("a", 12, 0, 3), entry("a", 15, 0, 4), entry("b", 45, 0, 1))
	gets(t, r, 0, l, "a", 12, row("a", 12, 1, 3))
	gets(t, r, 50, l, "a", 12, row("a", 10, 10, 3, 4))
	gets(t, r, 50, l, "a", 19, row("a", 10, 10, 3, 4))
	gets(t, r, 50, l, "a", 20, Row{})
	gets(t, r, 50, l, "b", 45, row("b", 45, 1, 1))
	gets(t, r, 119, l, "a", 15, row("a", 10, 10, 3, 4))
	gets(t, r, 120, l, "a", 15, Row{})
	gets(t, r, 120, l, "b", 49, row("b", 40, 10, 1))
}

// wrong is arguments that Fold refuses, and its error.
type wrong struct {
	name string
	r    api.Rules
	w    int64
	l    []api.Entry
	e    api.Errno
}

func wrongs() []wrong {
	r, l := example(), known()
	unlike := []api.Entry{l[1], l[0]}
	unfit := []api.Entry{entry("a", 11, 1, 1)}
	return []wrong{
		{"no rules", api.Rules{}, 0, l, api.ErrRules},
		{"no rules, no time, no order", rules(5, 1, 1), -1, unlike, api.ErrRules},
		{"below 0", r, -1, l, api.ErrArg},
		{"above all times", r, top + 1, unlike, api.ErrArg},
		{"least", r, math.MinInt64, l, api.ErrArg},
		{"no order", r, 5, unlike, api.ErrOrder},
		{"twice", r, 5, []api.Entry{unfit[0], unfit[0]}, api.ErrOrder},
		{"no bucket's beginning", r, 5, unfit, api.ErrForm},
		{"no step", r, 5, []api.Entry{entry("a", 0, 2, 1)}, api.ErrForm},
		{"nothing known", r, 5, []api.Entry{entry("a", 0, 0)}, api.ErrForm},
		{"not right", r, 5, []api.Entry{{Key: entry("a", 0, 0).Key, Agg: api.Agg{Count: 1, Min: 2, Max: 1}}}, api.ErrForm},
		{"no key", r, 5, []api.Entry{{Key: []byte{1}, Agg: agg.One(1)}}, api.ErrForm},
	}
}

// wrongDims is dimensions that no key may have.
func wrongDims() [][]string {
	return [][]string{{"", "", "", "", ""}, {strings.Repeat("a", api.MaxDim+1)}, {"a", "b", "c", strings.Repeat("\x00", api.MaxDim+1)}}
}

func refusedGet(t *testing.T, name string, r api.Rules, w int64, l []api.Entry, dims []string, at int64, want api.Errno) {
	t.Helper()
	x, ok, e := Get(r, w, l, dims, at)
	if e != want || ok || !sameRow(x, Row{}) {
		t.Errorf("%s: Get = %v, %v, %v; want %v", name, x, ok, e, want)
	}
}

func TestP17_1Wrong(t *testing.T) {
	for _, x := range wrongs() {
		refusedGet(t, x.name, x.r, x.w, x.l, list("a"), 12, x.e)
		refusedGet(t, x.name+" and dims", x.r, x.w, x.l, wrongDims()[0], -1, x.e)
	}
	for _, dims := range wrongDims() {
		refusedGet(t, "dims", example(), 0, known(), dims, 12, api.ErrFact)
		refusedGet(t, "dims of nothing", example(), 0, nil, dims, 12, api.ErrFact)
	}
	for _, at := range []int64{-1, top + 1, math.MinInt64, math.MaxInt64} {
		refusedGet(t, "time", example(), 0, known(), list("a"), at, api.ErrFact)
	}
	longest := []string{strings.Repeat("z", api.MaxDim), "", "", ""}
	if _, ok, e := Get(example(), 0, known(), longest, top); ok || e != api.OK {
		t.Errorf("dimensions that may be: %v, %v", ok, e)
	}
}

// scans holds an answer of Scan against what is to be told.
func scans(t *testing.T, r api.Rules, w int64, l []api.Entry, dims string, from, to int64, want ...Row) {
	t.Helper()
	got, e := Scan(r, w, l, list(dims), from, to)
	if e != api.OK || !same(got, want) {
		t.Errorf("Scan of %q from %d to %d, mark %d = %v, %v; want %v", dims, from, to, w, got, e, want)
	}
}

func TestP17_2Scan(t *testing.T) {
	r, l := example(), known()
	scans(t, r, 0, l, "a", 0, top,
		row("a", 10, 10, 1, 2), row("a", 12, 1, 3), row("a", 15, 1, 4), row("a", 45, 1, 7), row("a,x", 5, 1, 10), row("a,y", 6, 1, 20), row("a,y", 30, 10, 21))
	scans(t, r, 0, l, "a,y", 0, top, row("a,y", 6, 1, 20), row("a,y", 30, 10, 21))
	scans(t, r, 0, l, "ab", 0, top, row("ab", 5, 1, 30))
	scans(t, r, 0, l, "b", 0, top, row("b", 45, 1, 1), row("b,x,a", 0, 1, -5))
	scans(t, r, 0, l, "b,x", 0, 1, row("b,x,a", 0, 1, -5))
	scans(t, r, 0, l, "", 5, 7, row("a,x", 5, 1, 10), row("a,y", 6, 1, 20), row("ab", 5, 1, 30))
	scans(t, r, 0, l, "", 3, 4, row("", 3, 1, 9))
	scans(t, r, 0, l, "", 4, 5)
	scans(t, r, 0, l, "", 3, 3)
	scans(t, r, 0, l, "", top, top)
	scans(t, r, 0, l, "x", 0, top)
	scans(t, r, 0, l, "a,x,y", 0, top)
	scans(t, r, 0, nil, "", 0, top)
	// A bucket counts by where it begins.
	scans(t, r, 0, l, "a,y", 30, 31, row("a,y", 30, 10, 21))
	scans(t, r, 0, l, "a,y", 31, 40)
}

func TestP17_2OneBesideTheOther(t *testing.T) {
	r := example()
	l := inOrder(entry("a", 10, 0, 1), entry("a", 10, 1, 2), entry("a", 20, 0, 3))
	scans(t, r, 0, l, "a", 10, 11, row("a", 10, 1, 1), row("a", 10, 10, 2))
	scans(t, r, 40, l, "a", 10, 21, row("a", 10, 10, 1, 2), row("a", 20, 1, 3))
	scans(t, r, 50, l, "a", 10, 21, row("a", 10, 10, 1, 2), row("a", 20, 10, 3))
	scans(t, r, 120, l, "a", 0, 100, row("a", 20, 10, 3))
	scans(t, r, 130, l, "a", 0, 100)
}

func refusedScan(t *testing.T, name string, r api.Rules, w int64, l []api.Entry, dims []string, from, to int64, want api.Errno) {
	t.Helper()
	if rows, e := Scan(r, w, l, dims, from, to); e != want || len(rows) > 0 {
		t.Errorf("%s: Scan = %v, %v; want %v", name, rows, e, want)
	}
}

// wrongRanges is numbers of which one is no time, or the second one is below the first.
func wrongRanges() [][2]int64 {
	return [][2]int64{{6, 5}, {-1, 5}, {0, top + 1}, {top + 1, top + 1}, {-2, -1}, {1, 0}, {top, top - 1}, {math.MinInt64, math.MaxInt64}, {math.MaxInt64, math.MinInt64}, {0, -1}}
}

func TestP17_2Wrong(t *testing.T) {
	for _, x := range wrongs() {
		refusedScan(t, x.name, x.r, x.w, x.l, nil, 0, 100, x.e)
		refusedScan(t, x.name+" and all else", x.r, x.w, x.l, wrongDims()[0], 5, 4, x.e)
	}
	for _, dims := range wrongDims() {
		refusedScan(t, "dims", example(), 0, known(), dims, 0, 100, api.ErrFact)
		refusedScan(t, "dims and range", example(), 0, known(), dims, 5, 4, api.ErrFact)
	}
	for _, x := range wrongRanges() {
		refusedScan(t, "range", example(), 0, known(), list("a"), x[0], x[1], api.ErrArg)
		refusedScan(t, "range of nothing", example(), 0, nil, nil, x[0], x[1], api.ErrArg)
	}
}

// rollsUp holds an answer of Rollup against what is to be told.
func rollsUp(t *testing.T, r api.Rules, w int64, l []api.Entry, mask int, from, to int64, want ...Row) {
	t.Helper()
	got, e := Rollup(r, w, l, mask, from, to)
	if e != api.OK || !same(got, want) {
		t.Errorf("Rollup by %d from %d to %d, mark %d = %v, %v; want %v", mask, from, to, w, got, e, want)
	}
}

func TestP17_3Example(t *testing.T) {
	l := inOrder(entry("a,x", 5, 0, 1), entry("a,y", 6, 0, 2))
	rollsUp(t, example(), 0, l, 1, 0, 100, row("a", 0, 100, 1, 2))
	rollsUp(t, example(), 0, l, 2, 0, 100, row("x", 0, 100, 1), row("y", 0, 100, 2))
	rollsUp(t, example(), 0, l, 3, 0, 100, row("a,x", 0, 100, 1), row("a,y", 0, 100, 2))
	rollsUp(t, example(), 0, l, 0, 0, 100, row("", 0, 100, 1, 2))
	rollsUp(t, example(), 0, l, 4, 0, 100, row("", 0, 100, 1, 2))
}

func TestP17_3Rollup(t *testing.T) {
	r, l := example(), known()
	rollsUp(t, r, 0, l, 1, 0, top, row("", 0, top, 9, 4, 5, 6), row("a", 0, top, 3, 4, 1, 2, 7, 10, 20, 21), row("ab", 0, top, 30), row("b", 0, top, 1, -5))
	rollsUp(t, r, 0, l, 6, 0, 7, row("", 0, 7, 9, 30), row("x", 0, 7, 10), row("x,a", 0, 7, -5), row("y", 0, 7, 20))
	rollsUp(t, r, 0, l, math.MaxInt, 40, 50, row("a", 40, 10, 7), row("b", 40, 10, 1))
	rollsUp(t, r, 0, l, 15, 45, 46, row("a", 45, 1, 7), row("b", 45, 1, 1))
	rollsUp(t, r, 0, l, 1, 46, 46)
	rollsUp(t, r, 0, l, 0, 46, 100)
	rollsUp(t, r, 0, l, 0, top, top)
	rollsUp(t, r, 0, nil, 0, 0, top)
	// A bucket counts by where it begins, at the mark.
	rollsUp(t, r, 0, l, 1, 45, 50, row("a", 45, 5, 7), row("b", 45, 5, 1))
	rollsUp(t, r, 70, l, 1, 45, 50)
	rollsUp(t, r, 70, l, 1, 40, 41, row("a", 40, 1, 7), row("b", 40, 1, 1))
}

func TestP17_3Order(t *testing.T) {
	r := rules(100, 1, 0)
	// Dimensions whose texts have the bytes by which texts are ended, and lists that are others' fronts.
	var l []api.Entry
	texts := []string{"", "\x00", "\x00\x00", "\x00\x01", "\x01", "a", "a\x00", "a\xff", "aa", "b", "\xff"}
	for i, a := range texts {
		l = append(l, entry("x,"+a, int64(i), 0, 1))
		for _, b := range texts {
			l = append(l, entry("x,"+a+","+b, int64(i), 0, 2))
		}
	}
	l = inOrder(append(l, entry("x", 0, 0, 3))...)
	rows, e := Rollup(r, 0, l, 6, 0, 100)
	want := 1 + len(texts) + len(texts)*len(texts)
	if e != api.OK || len(rows) != want {
		t.Fatalf("%d rows, %v; want %d", len(rows), e, want)
	}
	for i := 1; i < len(rows); i++ {
		if slices.Compare(rows[i-1].Dims, rows[i].Dims) >= 0 {
			t.Errorf("%q ahead of %q", rows[i-1].Dims, rows[i].Dims)
		}
	}
}

func refusedRollup(t *testing.T, name string, r api.Rules, w int64, l []api.Entry, mask int, from, to int64, want api.Errno) {
	t.Helper()
	if rows, e := Rollup(r, w, l, mask, from, to); e != want || len(rows) > 0 {
		t.Errorf("%s: Rollup = %v, %v; want %v", name, rows, e, want)
	}
}

func TestP17_3Wrong(t *testing.T) {
	for _, x := range wrongs() {
		refusedRollup(t, x.name, x.r, x.w, x.l, 1, 0, 100, x.e)
		refusedRollup(t, x.name+" and all else", x.r, x.w, x.l, -1, 5, 4, x.e)
	}
	for _, mask := range []int{-1, -2, math.MinInt} {
		refusedRollup(t, "mask", example(), 0, known(), mask, 0, 100, api.ErrArg)
		refusedRollup(t, "mask of nothing", example(), 0, nil, mask, 0, 100, api.ErrArg)
	}
	for _, x := range wrongRanges() {
		refusedRollup(t, "range", example(), 0, known(), 1, x[0], x[1], api.ErrArg)
	}
}

// made is entries that fit rules, made by a rule: some finer ones, some coarser ones, of few dimensions.
func made(x uint32, r api.Rules, most int) ([]api.Entry, uint32) {
	var l []api.Entry
	all := []string{"", "a", "b", "a,x", "a,y", "b,x", "ab", "a,x,q", "a,x,q,a", ",", "\x00"}
	seen := map[string]int{}
	for range most {
		x = some(x)
		dims := all[x>>20%uint32(len(all))]
		x = some(x)
		gran := int(x>>16) % len(r.Grans)
		x = some(x)
		size := r.Grans[gran].Size
		n := entry(dims, int64(x>>12%150)/size*size, gran, int64(x>>20)-2000)
		if seen[string(n.Key)]++; seen[string(n.Key)] == 1 {
			l = append(l, n)
		}
	}
	return inOrder(l...), x
}

// plain is the folded entries' rows, found one by one.
func plain(r api.Rules, w int64, l []api.Entry) []Row {
	entries, _ := fold.Fold(r, w, l)
	var rows []Row
	for _, x := range entries {
		k, _ := key.Read(x.Key)
		rows = append(rows, Row{Dims: k.Dims, From: k.From, Size: r.Grans[k.Gran].Size, Agg: x.Agg})
	}
	return rows
}

// plainGet finds a row time by time of each bucket.
func plainGet(rows []Row, dims []string, at int64) (Row, bool) {
	var found []Row
	for _, x := range rows {
		for i := range x.Size {
			if slices.Equal(x.Dims, dims) && x.From+i == at {
				found = append(found, x)
			}
		}
	}
	if len(found) == 0 {
		return Row{}, false
	}
	coarsest := slices.MaxFunc(found, func(a, b Row) int { return int(a.Size - b.Size) })
	coarsest.Agg = api.Agg{}
	for _, x := range found {
		coarsest.Agg = agg.Merge(coarsest.Agg, x.Agg)
	}
	return coarsest, true
}

func TestP17_1MadeByRule(t *testing.T) {
	x := uint32(1)
	for _, r := range rights() {
		for w := int64(0); w < 300; w += 37 {
			var l []api.Entry
			l, x = made(x, r, 30)
			rows := plain(r, w, l)
			for _, dims := range []string{"", "a", "a,x", "ab", ","} {
				for at := int64(0); at < 170; at += 3 {
					want, _ := plainGet(rows, list(dims), at)
					gets(t, r, w, l, dims, at, want)
				}
			}
		}
	}
}

func TestP17_2MadeByRule(t *testing.T) {
	x := uint32(2)
	for _, r := range rights() {
		for w := int64(0); w < 300; w += 37 {
			var l []api.Entry
			l, x = made(x, r, 30)
			for _, dims := range []string{"", "a", "a,x", "ab", ","} {
				x = some(x)
				from := int64(x>>20) % 100
				x = some(x)
				to := from + int64(x>>20)%100
				want := slices.DeleteFunc(plain(r, w, l), func(x Row) bool {
					n := len(list(dims))
					return x.From < from || x.From >= to || len(x.Dims) < n || !slices.Equal(x.Dims[:n], list(dims))
				})
				scans(t, r, w, l, dims, from, to, want...)
			}
		}
	}
}

// plainRollup gathers rows by holding each one's part against those that are there.
func plainRollup(rows []Row, mask int, from, to int64) []Row {
	var out []Row
	for _, x := range rows {
		if x.From < from || x.From >= to {
			continue
		}
		part, _ := key.Part(x.Dims, mask)
		at := slices.IndexFunc(out, func(y Row) bool { return slices.Equal(y.Dims, part) })
		if at < 0 {
			at = len(out)
			out = append(out, Row{Dims: part, From: from, Size: to - from})
		}
		out[at].Agg = agg.Merge(out[at].Agg, x.Agg)
	}
	slices.SortFunc(out, func(a, b Row) int { return slices.Compare(a.Dims, b.Dims) })
	return out
}

func TestP17_3MadeByRule(t *testing.T) {
	x := uint32(3)
	for _, r := range rights() {
		for w := int64(0); w < 300; w += 37 {
			var l []api.Entry
			l, x = made(x, r, 40)
			for mask := range 16 {
				x = some(x)
				from := int64(x>>20) % 100
				x = some(x)
				to := from + int64(x>>20)%100
				rollsUp(t, r, w, l, mask, from, to, plainRollup(plain(r, w, l), mask, from, to)...)
			}
		}
	}
}

func TestP17_4RangesSideBySide(t *testing.T) {
	r, x := example(), uint32(4)
	for w := int64(0); w < 260; w += 13 {
		var l []api.Entry
		l, x = made(x, r, 40)
		for _, dims := range []string{"", "a", "b,x"} {
			for middle := int64(0); middle <= 160; middle += 7 {
				all, _ := Scan(r, w, l, list(dims), 0, 160)
				first, e := Scan(r, w, l, list(dims), 0, middle)
				second, e2 := Scan(r, w, l, list(dims), middle, 160)
				if e != api.OK || e2 != api.OK {
					t.Fatal(e, e2)
				}
				both := append(first, second...)
				slices.SortStableFunc(both, func(a, b Row) int { return slices.Compare(a.Dims, b.Dims) })
				if !same(both, all) {
					t.Fatalf("parted at %d: %v; want %v", middle, both, all)
				}
			}
		}
	}
}

// atOnce is the mask of those dimensions of the first mask that the second one takes.
func atOnce(first, second int) int {
	mask, place := 0, 0
	for i := range api.MaxDims {
		if first>>i&1 == 1 {
			mask |= second >> place & 1 << i
			place++
		}
	}
	return mask
}

func TestP17_5RolledUpAgain(t *testing.T) {
	r, x := example(), uint32(5)
	for w := int64(0); w < 260; w += 13 {
		var l []api.Entry
		l, x = made(x, r, 40)
		var all api.Agg
		for _, y := range plain(r, w, l) {
			all = agg.Merge(all, y.Agg)
		}
		if all.Count > 0 {
			rollsUp(t, r, w, l, 0, 0, 200, Row{From: 0, Size: 200, Agg: all})
		}
		for first := range 16 {
			once, _ := Rollup(r, w, l, first, 0, 200)
			for second := range 16 {
				rollsUp(t, r, w, l, atOnce(first, second), 0, 200, plainRollup(once, second, 0, 200)...)
			}
		}
	}
}

func TestP17_6EveryRowIsGot(t *testing.T) {
	x := uint32(6)
	for _, r := range rights() {
		for w := int64(0); w < 260; w += 13 {
			var l []api.Entry
			l, x = made(x, r, 30)
			rows, _ := Scan(r, w, l, nil, 0, top)
			for _, y := range rows {
				got, ok, e := Get(r, w, l, y.Dims, y.From)
				if e != api.OK || !ok || got.Size < y.Size || got.From > y.From || got.Agg.Count < y.Agg.Count {
					t.Fatalf("%v is got as %v, %v, %v", y, got, ok, e)
				}
				alone := !slices.ContainsFunc(rows, func(z Row) bool {
					return z.Size != y.Size && slices.Equal(z.Dims, y.Dims) && z.From <= y.From && y.From < z.From+z.Size
				})
				if alone && !sameRow(got, y) {
					t.Fatalf("%v is got as %v", y, got)
				}
			}
		}
	}
}

func TestP1NotChangedNewMemory(t *testing.T) {
	r, l, dims := example(), known(), []string{"a", "y"}
	front := dims[:1]
	ask := func() [][]Row {
		one, _, _ := Get(r, 0, l, dims, 6)
		some, _ := Scan(r, 0, l, front, 0, 100)
		sums, _ := Rollup(r, 0, l, 3, 0, 100)
		return [][]Row{{one}, some, sums}
	}
	first := ask()
	for _, rows := range ask() {
		for _, x := range rows {
			for i := range x.Dims {
				x.Dims[i] = "turned"
			}
			_ = append(x.Dims, "more")
		}
		clear(rows)
	}
	for i, rows := range ask() {
		if !same(rows, first[i]) {
			t.Errorf("answers hang on what was done to others: %v; want %v", rows, first[i])
		}
	}
	if !slices.Equal(dims, []string{"a", "y"}) || !slices.EqualFunc(l, known(), func(a, b api.Entry) bool { return bytes.Equal(a.Key, b.Key) && a.Agg == b.Agg }) {
		t.Errorf("what was handed in has changed")
	}
}

func FuzzAsk(f *testing.F) {
	f.Add([]byte{1, 97, 0, 1, 0, 128, 0, 0, 0, 0, 0, 0, 5, 0}, "a", int64(5), int64(0), 1)
	f.Add([]byte{}, "", int64(-1), int64(1)<<40, -1)
	f.Fuzz(func(t *testing.T, b []byte, dims string, from, to int64, mask int) {
		for _, r := range append(rights(), api.Rules{}, api.Rules{Grans: []api.Gran{{}}}) {
			l := []api.Entry{{Key: b, Agg: agg.One(1)}}
			if x, ok, e := Get(r, to, l, list(dims), from); ok && (e != api.OK || from < x.From || from >= x.From+x.Size || x.Agg != agg.One(1)) {
				t.Errorf("Get = %v, %v, %v", x, ok, e)
			}
			rows, e := Scan(r, to, l, list(dims), from, to)
			sums, e2 := Rollup(r, to, l, mask, from, to)
			if len(rows) > 1 || len(sums) > 1 || e != api.OK && rows != nil || e2 != api.OK && sums != nil {
				t.Errorf("Scan = %v, %v; Rollup = %v, %v", rows, e, sums, e2)
			}
		}
	})
}
