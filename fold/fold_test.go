package fold

import (
	"bytes"
	"maps"
	"math"
	"slices"
	"strings"
	"testing"

	"rickyard/agg"
	"rickyard/api"
	"rickyard/key"
)

const top = api.MaxTime

// some is the next number of a row that is made by a rule.
func some(x uint32) uint32 {
	return x*1664525 + 1013904223
}

// rules is rules with these sizes and ages, one behind the other, and a Keep.
func rules(keep int64, pairs ...int64) api.Rules {
	r := api.Rules{Keep: keep}
	for i := 0; i < len(pairs); i += 2 {
		r.Grans = append(r.Grans, api.Gran{Size: pairs[i], Age: pairs[i+1]})
	}
	return r
}

// example is the rules of the document's examples.
func example() api.Rules {
	return rules(100, 1, 0, 10, 20)
}

// three is rules of three steps.
func three() api.Rules {
	return rules(200, 1, 0, 10, 20, 60, 100)
}

// rights is right rules: ordinary ones, and those at the edges.
func rights() []api.Rules {
	return []api.Rules{
		example(), three(), rules(0, 1, 0), rules(50, 7, 0), rules(3, 2, 0, 4, 0, 8, 0, 16, 0), rules(9, 3, 0, 6, 5, 30, 5, 60, 9),
		rules(40, 1, 0, 3, 7, 6, 11, 12, 40), rules(0, top, 0), rules(2*top, top/2, 0, top, top), rules(2*top, 1, 0, 2, 1, top/2, top-1, top, top), rules(5, 1, 0, top-1, 5),
	}
}

// wrongs is rules that are not right.
func wrongs() []api.Rules {
	return []api.Rules{
		{}, {Keep: 5}, rules(9, 1, 0, 2, 1, 4, 2, 8, 3, 16, 4), rules(5, 1, 1), rules(5, 0, 0), rules(5, -1, 0), rules(5, math.MinInt64, 0), rules(5, top+1, 0),
		rules(5, 1, 0, 1, 1), rules(5, 2, 0, 3, 1), rules(5, 1, 0, 0, 1), rules(5, 1, 0, 2, -1), rules(5, 1, 0, 2, 3, 4, 2), rules(4, 1, 0, 2, 5), rules(-1, 1, 0), rules(2*top+1, 1, 0),
	}
}

// noTimes is numbers that are no times.
func noTimes() []int64 {
	return []int64{-1, top + 1, 2 * top, math.MinInt64, math.MaxInt64}
}

// marks is watermarks: small ones, and those around the edges.
func marks() []int64 {
	return []int64{0, 1, 9, 10, 11, 19, 29, 30, 31, 50, 59, 60, 79, 80, 110, 130, 160, 200, 259, 260, 261, 400, top / 2, top - 1, top}
}

// at is a key as bytes: dimensions (parted by commas), From and Gran.
func at(dims string, from int64, gran int) []byte {
	var l []string
	if dims != "" {
		l = strings.Split(dims, ",")
	}
	b, e := key.Write(api.Key{Dims: l, From: from, Gran: gran})
	if e != api.OK {
		panic("no key")
	}
	return b
}

// entry is a key with what is known of some facts.
func entry(dims string, from int64, gran int, facts ...int64) api.Entry {
	return api.Entry{Key: at(dims, from, gran), Agg: agg.Many(facts)}
}

// fact is a fact of dimensions (parted by commas).
func fact(dims string, at, value int64) api.Fact {
	var l []string
	if dims != "" {
		l = strings.Split(dims, ",")
	}
	return api.Fact{Dims: l, At: at, Value: value}
}

func sameEntry(a, b api.Entry) bool {
	return bytes.Equal(a.Key, b.Key) && a.Agg == b.Agg
}

func same(a, b []api.Entry) bool {
	return slices.EqualFunc(a, b, sameEntry)
}

// copied is entries in memory of their own.
func copied(l []api.Entry) []api.Entry {
	out := make([]api.Entry, len(l))
	for i, x := range l {
		out[i] = api.Entry{Key: bytes.Clone(x.Key), Agg: x.Agg}
	}
	return out
}

// bucketEnd is where the bucket of a time ends, found by multiples counted up.
func bucketEnd(t, size int64) int64 {
	return (t/size + 1) * size
}

// plainExpired tells whether a time is expired.
func plainExpired(r api.Rules, t, w int64) bool {
	return bucketEnd(t, r.Grans[len(r.Grans)-1].Size) <= w-r.Keep
}

// plainKey is the key that an entry has at a watermark.
func plainKey(r api.Rules, w int64, k api.Key) api.Key {
	for i, g := range r.Grans {
		if bucketEnd(k.From, g.Size) <= w-g.Age && i > k.Gran {
			k.Gran = i
		}
	}
	k.From = k.From / r.Grans[k.Gran].Size * r.Grans[k.Gran].Size
	return k
}

// plainFold is entries that fit, folded, by a map.
func plainFold(r api.Rules, w int64, l []api.Entry) []api.Entry {
	known := map[string]api.Agg{}
	for _, x := range l {
		k, _ := key.Read(x.Key)
		if plainExpired(r, k.From, w) {
			continue
		}
		b, _ := key.Write(plainKey(r, w, k))
		known[string(b)] = agg.Merge(known[string(b)], x.Agg)
	}
	return sorted(known)
}

// plainStale tells whether an entry is expired, or has another key.
func plainStale(r api.Rules, w int64, l []api.Entry) bool {
	for _, x := range l {
		k, _ := key.Read(x.Key)
		b, _ := key.Write(plainKey(r, w, k))
		if plainExpired(r, k.From, w) || !bytes.Equal(b, x.Key) {
			return true
		}
	}
	return false
}

// sorted is what is known by keys, as entries.
func sorted(known map[string]api.Agg) []api.Entry {
	var l []api.Entry
	for _, k := range slices.Sorted(maps.Keys(known)) {
		l = append(l, api.Entry{Key: []byte(k), Agg: known[k]})
	}
	return l
}

// finest is facts as entries of the first step.
func finest(r api.Rules, l []api.Fact) []api.Entry {
	known := map[string]api.Agg{}
	for _, f := range l {
		b, _ := key.Write(api.Key{Dims: f.Dims, From: f.At / r.Grans[0].Size * r.Grans[0].Size})
		known[string(b)] = agg.Merge(known[string(b)], agg.One(f.Value))
	}
	return sorted(known)
}

// folds tells that entries are folded as they are to be, and answers what comes.
func folds(t *testing.T, r api.Rules, w int64, l []api.Entry) []api.Entry {
	t.Helper()
	got, e := Fold(r, w, l)
	if want := plainFold(r, w, l); e != api.OK || !same(got, want) {
		t.Fatalf("Fold(%v, %d, %v) = %v, %v, not %v", r, w, l, got, e, want)
	}
	if stale, e := Stale(r, w, l); e != api.OK || stale != plainStale(r, w, l) {
		t.Fatalf("Stale(%v, %d, %v) = %v, %v", r, w, l, stale, e)
	}
	return got
}

// refused tells that entries are not folded.
func refused(t *testing.T, name string, r api.Rules, w int64, l []api.Entry, want api.Errno) {
	t.Helper()
	if got, e := Fold(r, w, l); e != want || len(got) != 0 {
		t.Errorf("%s: Fold(%v, %d) = %v, %v, not %v", name, r, w, got, e, want)
	}
	if stale, e := Stale(r, w, l); e != want || stale {
		t.Errorf("%s: Stale(%v, %d) = %v, %v, not %v", name, r, w, stale, e, want)
	}
}

// madeTime is a time that is made by a rule: most often a small one.
func madeTime(x uint32) int64 {
	switch x >> 28 {
	case 0:
		return top - int64(x>>8%100)
	case 1:
		return top/2 - 50 + int64(x>>8%100)
	}
	return int64(x >> 8 % 300)
}

// madeDims is dimensions that are made by a rule.
func madeDims(x uint32) []string {
	return [][]string{nil, {"a"}, {"a", "b"}, {"a", ""}, {"b\x00"}, {""}}[x>>16%6]
}

// madeEntries is entries that fit, of any steps, made by a rule.
func madeEntries(x uint32, r api.Rules, most int) ([]api.Entry, uint32) {
	known := map[string]api.Agg{}
	x = some(x)
	for range int(x>>16) % (most + 1) {
		x = some(x)
		k := api.Key{Dims: madeDims(x), Gran: int(x>>20) % len(r.Grans)}
		x = some(x)
		k.From = madeTime(x) / r.Grans[k.Gran].Size * r.Grans[k.Gran].Size
		b, _ := key.Write(k)
		x = some(x)
		known[string(b)] = agg.Many([]int64{int64(int32(x)), int64(x >> 8 % 5)})
	}
	return sorted(known), x
}

// madeFacts is facts that are made by a rule.
func madeFacts(x uint32, most int) ([]api.Fact, uint32) {
	var l []api.Fact
	x = some(x)
	for range int(x>>16) % (most + 1) {
		x = some(x)
		f := api.Fact{Dims: madeDims(x), Value: int64(int32(x))}
		x = some(x)
		f.At = madeTime(x)
		l = append(l, f)
	}
	return l, x
}

// madeMark is a watermark that is made by a rule.
func madeMark(x uint32) int64 {
	if x>>30 == 0 {
		return marks()[x>>8%25]
	}
	return int64(x >> 8 % 500)
}

func TestP15_1FitsOrdinary(t *testing.T) {
	r := three()
	for _, l := range [][]api.Entry{
		nil, {}, {entry("a", 0, 0, 1)}, {entry("", 0, 2, 1)}, {entry("a", 12, 0, 1), entry("a", 20, 1, 1), entry("a", 120, 2, 1)},
		{entry("b", 0, 0, 1), entry("a", 0, 0, 1)}, {entry("a", 0, 0, 1), entry("a", 0, 0, 1)}, {entry("a", top, 0, 1)},
		{{Key: at("a", 0, 0), Agg: api.Agg{Count: math.MaxUint64, Over: true, Min: -1, Max: 1}}},
	} {
		if !Fits(r, l) {
			t.Errorf("Fits(%v) is false", l)
		}
	}
}

func TestP15_1FitsRules(t *testing.T) {
	for _, r := range wrongs() {
		if !Fits(r, nil) || !Fits(r, []api.Entry{}) {
			t.Errorf("an empty list does not fit %v", r)
		}
		for _, l := range [][]api.Entry{{entry("a", 0, 0, 1)}, {entry("a", 0, 1, 1)}, {entry("", 4, 0, 1)}, {{}}} {
			if Fits(r, l) {
				t.Errorf("%v fits %v", l, r)
			}
		}
	}
	for _, r := range rights() {
		for gran := range api.MaxGrans {
			if got := Fits(r, []api.Entry{entry("a", 0, gran, 1)}); got != (gran < len(r.Grans)) {
				t.Errorf("the step %d of %v: %v", gran, r, got)
			}
		}
		for gran, g := range r.Grans {
			for _, from := range []int64{0, 1, 2, 3, 6, 7, 10, 60, 61, g.Size - 1, g.Size, g.Size + 1, 3 * g.Size, top/2 - 1, top / 2, top - 1, top} {
				if from > top {
					continue
				}
				if got := Fits(r, []api.Entry{entry("a", from, gran, 1)}); got != (from%g.Size == 0) {
					t.Errorf("%d at the step %d of %v: %v", from, gran, r, got)
				}
			}
		}
	}
}

// A step that lies in the rules' memory, but behind their length, is none.
func TestP15_1FitsBehindTheLength(t *testing.T) {
	r := three()
	r.Grans = r.Grans[:2]
	r.Keep = 20
	l := []api.Entry{entry("a", 60, 2, 1)}
	if Fits(r, l) {
		t.Errorf("a step behind the length fits")
	}
	refused(t, "behind the length", r, 5, l, api.ErrForm)
}

// unfit is entries none of which fits the rules of three.
func unfit() map[string]api.Entry {
	good := agg.One(1)
	return map[string]api.Entry{
		"nil":              {Agg: good},
		"no bytes":         {Key: []byte{}, Agg: good},
		"a letter":         {Key: []byte("x"), Agg: good},
		"a byte too few":   {Key: at("a", 0, 0)[:12], Agg: good},
		"a byte too many":  {Key: append(at("a", 0, 0), 0), Agg: good},
		"a group":          {Key: []byte{1, 'a', 0, 1, 0}, Agg: good},
		"below 0":          {Key: []byte{0, 127, 255, 255, 255, 255, 255, 255, 255, 0}, Agg: good},
		"no time":          {Key: []byte{0, 128, 0, 1, 0, 0, 0, 0, 1, 0}, Agg: good},
		"no Gran":          {Key: []byte{0, 128, 0, 0, 0, 0, 0, 0, 0, 4}, Agg: good},
		"no step":          {Key: at("a", 0, 3), Agg: good},
		"between":          {Key: at("a", 5, 1), Agg: good},
		"a finer one's":    {Key: at("a", 10, 2), Agg: good},
		"nothing known":    {Key: at("a", 0, 0)},
		"no Count":         {Key: at("a", 0, 0), Agg: api.Agg{Min: 1, Max: 1}},
		"Min above Max":    {Key: at("a", 0, 0), Agg: api.Agg{Count: 1, Min: 2, Max: 1}},
		"Over too early":   {Key: at("a", 0, 0), Agg: api.Agg{Count: 5, Over: true}},
		"Over, Min beyond": {Key: at("a", 0, 0), Agg: api.Agg{Count: math.MaxUint64, Over: true, Min: 2, Max: 1}},
	}
}

func TestP15_1Unfit(t *testing.T) {
	first, last := entry("", 0, 0, 1), api.Entry{Key: at("zz", 0, 0), Agg: agg.One(1)}
	for name, x := range unfit() {
		for _, l := range [][]api.Entry{{x}, {first, x, last}, {x, last}, {first, x}} {
			if Fits(three(), l) {
				t.Errorf("%s fits", name)
			}
			slices.SortFunc(l, func(a, b api.Entry) int { return bytes.Compare(a.Key, b.Key) })
			for _, w := range marks() {
				refused(t, name, three(), w, l, api.ErrForm)
			}
		}
	}
}

func TestP15_1Order(t *testing.T) {
	for name, l := range map[string][]api.Entry{
		"dimensions fall": {entry("b", 0, 0, 1), entry("a", 0, 0, 1)},
		"From falls":      {entry("a", 5, 0, 1), entry("a", 4, 0, 1)},
		"Gran falls":      {entry("a", 0, 1, 1), entry("a", 0, 0, 1)},
		"twice":           {entry("a", 0, 0, 1), entry("a", 0, 0, 2)},
		"the last ones":   {entry("a", 0, 0, 1), entry("a", 1, 0, 1), entry("b", 1, 0, 1), entry("a", 2, 0, 1)},
		"no keys":         {{}, {}},
		"unfit and fall":  {{Key: []byte("y")}, {Key: []byte("x")}},
		"unfit, then":     {{Key: []byte{0}}, entry("b", 0, 0, 1), entry("a", 0, 0, 1)},
		"then unfit":      {entry("b", 0, 0, 1), entry("a", 0, 0, 1), {Key: []byte("x")}},
		"expired and so":  {entry("a", 1, 0, 1), entry("a", 0, 0, 1), entry("a", 260, 0, 1)},
	} {
		for _, w := range marks() {
			refused(t, name, three(), w, l, api.ErrOrder)
		}
	}
}

// The first error that applies is told: of the rules, of the watermark, of the order, of what does not fit.
func TestP15_1WhichError(t *testing.T) {
	lists := [][]api.Entry{nil, {entry("a", 0, 0, 1)}, {entry("b", 0, 0, 1), entry("a", 0, 0, 1)}, {{Key: []byte("x")}}}
	for _, l := range lists {
		for _, r := range wrongs() {
			refused(t, "rules", r, 5, l, api.ErrRules)
			refused(t, "rules and no time", r, -1, l, api.ErrRules)
		}
		for _, w := range noTimes() {
			for _, r := range rights() {
				refused(t, "no time", r, w, l, api.ErrArg)
			}
		}
	}
}

func TestP15_1FoldByHand(t *testing.T) {
	l := []api.Entry{entry("a", 12, 0, 3), entry("a", 15, 0, 4), entry("a", 45, 0, 1), entry("b", 10, 1, 5, 6)}
	for w, want := range map[int64][]api.Entry{
		0:   l,
		39:  l,
		40:  {entry("a", 10, 1, 3, 4), entry("a", 45, 0, 1), entry("b", 10, 1, 5, 6)},
		69:  {entry("a", 10, 1, 3, 4), entry("a", 45, 0, 1), entry("b", 10, 1, 5, 6)},
		70:  {entry("a", 10, 1, 3, 4), entry("a", 40, 1, 1), entry("b", 10, 1, 5, 6)},
		119: {entry("a", 10, 1, 3, 4), entry("a", 40, 1, 1), entry("b", 10, 1, 5, 6)},
		120: {entry("a", 40, 1, 1)},
		149: {entry("a", 40, 1, 1)},
		150: nil,
		top: nil,
	} {
		if got, e := Fold(example(), w, l); e != api.OK || !same(got, want) {
			t.Errorf("Fold at %d = %v, %v, not %v", w, got, e, want)
		}
		if stale, e := Stale(example(), w, l); e != api.OK || stale != (w >= 40) {
			t.Errorf("Stale at %d = %v, %v", w, stale, e)
		}
	}
}

// A coarser entry stays coarse, though it is not so old, and stands beside finer ones; a finer one that comes behind it may
// have to stand ahead of it.
func TestP15_1CoarserThanAsked(t *testing.T) {
	r := three()
	for _, c := range []struct {
		w       int64
		l, want []api.Entry
	}{
		{0, []api.Entry{entry("a", 0, 0, 1), entry("a", 0, 1, 2), entry("a", 0, 2, 3), entry("a", 1, 0, 4)}, []api.Entry{entry("a", 0, 0, 1), entry("a", 0, 1, 2), entry("a", 0, 2, 3), entry("a", 1, 0, 4)}},
		{40, []api.Entry{entry("a", 0, 2, 1), entry("a", 5, 0, 2)}, []api.Entry{entry("a", 0, 1, 2), entry("a", 0, 2, 1)}},
		{40, []api.Entry{entry("a", 0, 1, 1), entry("a", 0, 2, 2), entry("a", 5, 0, 3), entry("a", 9, 0, 4)}, []api.Entry{entry("a", 0, 1, 1, 3, 4), entry("a", 0, 2, 2)}},
		{40, []api.Entry{entry("", 0, 2, 1), entry("a", 0, 2, 1), entry("a", 5, 0, 2), entry("b", 1, 0, 3)}, []api.Entry{entry("", 0, 2, 1), entry("a", 0, 1, 2), entry("a", 0, 2, 1), entry("b", 0, 1, 3)}},
		{160, []api.Entry{entry("a", 0, 2, 1), entry("a", 5, 0, 2), entry("a", 50, 1, 3), entry("a", 60, 2, 4), entry("a", 70, 0, 5)}, []api.Entry{entry("a", 0, 2, 1, 2, 3), entry("a", 60, 2, 4), entry("a", 70, 1, 5)}},
	} {
		if got := folds(t, r, c.w, c.l); !same(got, c.want) {
			t.Errorf("Fold at %d of %v = %v, not %v", c.w, c.l, got, c.want)
		}
	}
}

func TestP15_1Expired(t *testing.T) {
	r := three()
	for _, gran := range []int{0, 1, 2} {
		l := []api.Entry{entry("a", 0, gran, 1)}
		for w, want := range map[int64]int{0: 1, 200: 1, 259: 1, 260: 0, 261: 0, top: 0} {
			if got := folds(t, r, w, l); len(got) != want {
				t.Errorf("the step %d at %d: %v", gran, w, got)
			}
		}
	}
	if stale, e := Stale(r, 260, []api.Entry{entry("a", 0, 2, 1)}); e != api.OK || !stale {
		t.Errorf("what is expired, of the last step, is not stale: %v, %v", stale, e)
	}
	if stale, e := Stale(r, 259, []api.Entry{entry("a", 0, 2, 1)}); e != api.OK || stale {
		t.Errorf("what is not expired, of the last step, is stale: %v, %v", stale, e)
	}
}

// One entry among those that stay is enough to be stale, wherever it stands.
func TestP15_1StaleOne(t *testing.T) {
	stay := []api.Entry{entry("", 0, 1, 1), entry("a", 0, 1, 1), entry("b", 0, 1, 1)}
	if stale, e := Stale(three(), 40, stay); e != api.OK || stale {
		t.Fatalf("Stale = %v, %v", stale, e)
	}
	for place, dims := range []string{"", "a", "b"} {
		l := slices.Insert(copied(stay), place+1, entry(dims, 10, 0, 1))
		if stale, e := Stale(three(), 40, l); e != api.OK || !stale {
			t.Errorf("at %d: %v, %v", place, stale, e)
		}
	}
}

func TestP15_1Empty(t *testing.T) {
	for _, r := range rights() {
		for _, l := range [][]api.Entry{nil, {}} {
			if got := folds(t, r, 5, l); len(got) != 0 {
				t.Errorf("Fold of nothing: %v", got)
			}
		}
	}
}

// What is known is merged as chapter 2 says, the most that can be told too.
func TestP15_1Merged(t *testing.T) {
	most := api.Agg{Count: math.MaxUint64, Sum: api.Wide{Hi: math.MaxInt64, Lo: math.MaxUint64}, Min: -5, Max: 5}
	beyond := api.Agg{Count: math.MaxUint64, Over: true, Min: 3, Max: 9}
	for _, a := range []api.Agg{most, beyond, agg.One(math.MinInt64), agg.One(math.MaxInt64)} {
		for _, b := range []api.Agg{most, beyond, agg.One(math.MinInt64), agg.One(7)} {
			l := []api.Entry{{Key: at("a", 1, 0), Agg: a}, {Key: at("a", 2, 0), Agg: b}, {Key: at("a", 3, 0), Agg: agg.One(1)}}
			got := folds(t, example(), 50, l)
			if want := agg.Merge(agg.Merge(a, b), agg.One(1)); len(got) != 1 || got[0].Agg != want {
				t.Errorf("%v, not %v", got, want)
			}
		}
	}
}

func TestP15_1MadeByRule(t *testing.T) {
	x := uint32(3)
	for range 3000 {
		for _, r := range rights() {
			var l []api.Entry
			l, x = madeEntries(x, r, 14)
			if !Fits(r, l) {
				t.Fatalf("%v does not fit %v", l, r)
			}
			folds(t, r, madeMark(x), l)
		}
	}
	for _, r := range rights() {
		var l []api.Entry
		l, x = madeEntries(x, r, 60)
		for _, w := range marks() {
			folds(t, r, w, l)
		}
	}
}

// More entries than a table may have are folded too, in no more steps than they need.
func TestP15_1Many(t *testing.T) {
	var l []api.Entry
	for i := range int64(60000) {
		l = append(l, entry("a", i, 0, i))
	}
	for _, w := range []int64{0, 30000, 60020, 60080} {
		folds(t, rules(2*top, 1, 0, 10, 20, 60, 100), w, l)
	}
}

func TestP15_2Example(t *testing.T) {
	got, e := Facts(example(), 50, []api.Fact{fact("a", 12, 3), fact("a", 45, 1), fact("a", 15, 4)})
	if want := []api.Entry{entry("a", 10, 1, 3, 4), entry("a", 45, 0, 1)}; e != api.OK || !same(got, want) {
		t.Errorf("Facts = %v, %v", got, e)
	}
}

// factsFold tells that facts are folded as they are to be.
func factsFold(t *testing.T, r api.Rules, w int64, l []api.Fact) []api.Entry {
	t.Helper()
	got, e := Facts(r, w, l)
	if want := plainFold(r, w, finest(r, l)); e != api.OK || !same(got, want) {
		t.Fatalf("Facts(%v, %d, %v) = %v, %v, not %v", r, w, l, got, e, want)
	}
	return got
}

func TestP15_2Ordinary(t *testing.T) {
	for _, r := range rights() {
		for _, w := range marks() {
			for _, l := range [][]api.Fact{
				nil, {}, {fact("", 0, 0)}, {fact("a", top, 1)}, {fact("a", 5, 1), fact("a", 5, 1)}, {fact("b", 7, 1), fact("a", 9, 1), fact("b", 6, 2), fact("a", 9, -1)},
				{fact("a,b,c,d", 1, 1), fact(strings.Repeat("k", 16), 2, 1), fact(",", 3, 1), fact("a\x00,\x01", 4, 1)},
				{fact("a", 3, math.MinInt64), fact("a", 3, math.MaxInt64), fact("a", 3, math.MinInt64)},
			} {
				factsFold(t, r, w, l)
			}
		}
	}
	var many []api.Fact
	for i := range int64(20000) {
		many = append(many, fact("a", i*7919%5000, i))
	}
	factsFold(t, three(), 5000, many)
}

func TestP15_2MadeByRule(t *testing.T) {
	x := uint32(5)
	for range 2000 {
		for _, r := range rights() {
			var l []api.Fact
			l, x = madeFacts(x, 20)
			factsFold(t, r, madeMark(x), l)
		}
	}
}

// refusedFacts tells that facts are not folded.
func refusedFacts(t *testing.T, name string, r api.Rules, w int64, l []api.Fact, want api.Errno) {
	t.Helper()
	if got, e := Facts(r, w, l); e != want || len(got) != 0 {
		t.Errorf("%s: Facts(%v, %d) = %v, %v, not %v", name, r, w, got, e, want)
	}
}

func TestP15_2Wrong(t *testing.T) {
	bad := []api.Fact{fact("a,b,c,d,e", 1, 1), fact(strings.Repeat("k", 17), 1, 1), fact("a,"+strings.Repeat("k", 17), 1, 1)}
	for _, at := range noTimes() {
		bad = append(bad, fact("a", at, 1))
	}
	for _, f := range bad {
		for _, l := range [][]api.Fact{{f}, {fact("a", 1, 1), f}, {f, fact("a", 1, 1)}, {fact("a", 300, 1), f, f}} {
			for _, r := range rights() {
				refusedFacts(t, "fact", r, 300, l, api.ErrFact)
				refusedFacts(t, "fact, no time", r, -1, l, api.ErrArg)
			}
			for _, r := range wrongs() {
				refusedFacts(t, "fact, rules", r, -1, l, api.ErrRules)
			}
		}
	}
	for _, l := range [][]api.Fact{nil, {fact("a", 1, 1)}} {
		for _, r := range wrongs() {
			refusedFacts(t, "rules", r, 5, l, api.ErrRules)
			refusedFacts(t, "rules, no time", r, top+1, l, api.ErrRules)
		}
		for _, w := range noTimes() {
			refusedFacts(t, "no time", three(), w, l, api.ErrArg)
		}
	}
}

func TestP15_3FoldedAgain(t *testing.T) {
	x := uint32(7)
	for range 2000 {
		for _, r := range rights() {
			var l []api.Entry
			l, x = madeEntries(x, r, 14)
			w := madeMark(x)
			once, _ := Fold(r, w, l)
			if !Fits(r, once) {
				t.Fatalf("what was folded does not fit: %v", once)
			}
			if stale, e := Stale(r, w, once); e != api.OK || stale {
				t.Fatalf("%v at %d: what was folded is stale: %v, %v", r, w, once, e)
			}
			if twice, e := Fold(r, w, once); e != api.OK || !same(once, twice) {
				t.Fatalf("%v at %d: folded again: %v, %v, not %v", r, w, twice, e, once)
			}
		}
	}
}

// What is not stale is not changed by folding, and what is not changed is not stale.
func TestP15_3StaleJustWhereChanged(t *testing.T) {
	x := uint32(9)
	for range 3000 {
		for _, r := range rights() {
			var l []api.Entry
			l, x = madeEntries(x, r, 3)
			w := madeMark(x)
			stale, _ := Stale(r, w, l)
			if got, e := Fold(r, w, l); e != api.OK || same(got, l) == stale {
				t.Fatalf("%v at %d: %v, stale: %v, folded: %v, %v", r, w, l, stale, got, e)
			}
		}
	}
}

func TestP15_4LaterIsCoarser(t *testing.T) {
	x := uint32(11)
	for range 2000 {
		for _, r := range rights() {
			var l []api.Entry
			l, x = madeEntries(x, r, 14)
			first, last := madeMark(x), madeMark(some(x))
			x = some(x)
			first, last = min(first, last), max(first, last)
			once, _ := Fold(r, last, l)
			early, _ := Fold(r, first, l)
			if got, e := Fold(r, last, early); e != api.OK || !same(got, once) {
				t.Fatalf("%v at %d, then %d: %v, %v, not %v", r, first, last, got, e, once)
			}
		}
	}
}

// together is what is known of two lists, by a map.
func together(a, b []api.Entry) []api.Entry {
	known := map[string]api.Agg{}
	for _, x := range slices.Concat(a, b) {
		known[string(x.Key)] = agg.Merge(known[string(x.Key)], x.Agg)
	}
	return sorted(known)
}

func TestP15_5Parts(t *testing.T) {
	x := uint32(13)
	for range 2000 {
		for _, r := range rights() {
			var a, b []api.Entry
			a, x = madeEntries(x, r, 10)
			b, x = madeEntries(x, r, 10)
			w, before := madeMark(x), madeMark(some(x))
			x = some(x)
			before = min(w, before)
			all, _ := Fold(r, w, together(a, b))
			partA, _ := Fold(r, w, a)
			partB, _ := Fold(r, before, b)
			if got, e := Fold(r, w, together(partA, partB)); e != api.OK || !same(got, all) {
				t.Fatalf("%v at %d: in parts %v, %v, not %v", r, w, got, e, all)
			}
		}
	}
}

// Facts in whatever parts and order come to the same.
func TestP15_5FactsInParts(t *testing.T) {
	x := uint32(15)
	for range 1000 {
		for _, r := range rights() {
			var l []api.Fact
			l, x = madeFacts(x, 20)
			w := madeMark(x)
			all, _ := Facts(r, w, l)
			cut := int(x>>9) % (len(l) + 1)
			front, _ := Facts(r, 0, l[:cut])
			back, _ := Facts(r, w, l[cut:])
			if got, e := Fold(r, w, together(back, front)); e != api.OK || !same(got, all) {
				t.Fatalf("%v at %d: %v, %v, not %v", r, w, got, e, all)
			}
			slices.Reverse(l)
			if got, e := Facts(r, w, l); e != api.OK || !same(got, all) {
				t.Fatalf("%v at %d, reversed: %v, %v, not %v", r, w, got, e, all)
			}
		}
	}
}

func TestP15_6Counts(t *testing.T) {
	x := uint32(17)
	for range 2000 {
		for _, r := range rights() {
			var l []api.Entry
			l, x = madeEntries(x, r, 14)
			w := madeMark(x)
			var before, behind api.Agg
			for _, y := range l {
				if k, _ := key.Read(y.Key); !plainExpired(r, k.From, w) {
					before = agg.Merge(before, y.Agg)
				}
			}
			got, _ := Fold(r, w, l)
			for _, y := range got {
				behind = agg.Merge(behind, y.Agg)
			}
			if before != behind {
				t.Fatalf("%v at %d: of %v is left %v", r, w, before, behind)
			}
		}
	}
}

func TestP1NotChanged(t *testing.T) {
	keys := bytes.Join([][]byte{at("a", 12, 0), at("a", 15, 0), at("b", 3, 0)}, nil)
	n := len(keys) / 3
	room := []api.Entry{{Key: keys[:n], Agg: agg.One(1)}, {Key: keys[n : 2*n], Agg: agg.One(2)}, {Key: keys[2*n:], Agg: agg.One(3)}}
	grans := []api.Gran{{Size: 1}, {Size: 10, Age: 20}, {Size: 60, Age: 20}}
	r := api.Rules{Grans: grans[:2], Keep: 100}
	facts := []api.Fact{fact("b", 12, 1), fact("a", 15, 2), fact("a", 1, 3)}
	kept, keptRoom, keptGrans := bytes.Clone(keys), copied(room), slices.Clone(grans)
	for _, w := range marks() {
		folds(t, r, w, room[:2])
		Fits(r, room[:2])
		factsFold(t, r, w, facts[:2])
	}
	if !bytes.Equal(keys, kept) || !same(room, keptRoom) || !slices.Equal(grans, keptGrans) {
		t.Errorf("what was handed in has changed: %v, %v, %v", keys, room, grans)
	}
	if facts[0].Dims[0] != "b" || facts[1].At != 15 || facts[2].Value != 3 {
		t.Errorf("facts have changed: %v", facts)
	}
}

func TestP1NewMemory(t *testing.T) {
	l := []api.Entry{entry("a", 12, 0, 1), entry("a", 15, 0, 2), entry("a", 45, 0, 3), entry("b", 10, 1, 4), entry("b", 49, 0, 5)}
	kept := copied(l)
	for _, w := range []int64{0, 50, 100} {
		got := folds(t, example(), w, l)
		want := copied(got)
		for i := range got {
			_ = append(got[i].Key, bytes.Repeat([]byte{255}, 40)...)
			if !same(got[i+1:], want[i+1:]) {
				t.Errorf("keys of an answer share memory")
			}
			clear(got[i].Key)
		}
		got = append(got[:0], api.Entry{})
		if !same(l, kept) {
			t.Fatalf("an answer shares memory with what was handed in: %v", l)
		}
	}
}

// FuzzFold: any keys, rules and watermarks are answered, and what is folded fits and is not stale.
func FuzzFold(f *testing.F) {
	f.Add(at("a", 12, 0), at("a", 15, 0), uint64(1), int64(50), int64(1), int64(10), int64(20), int64(100))
	f.Add(at("a", 0, 1), at("a", 5, 0), uint64(0), int64(-1), int64(3), int64(2), int64(-20), int64(math.MaxInt64))
	f.Fuzz(func(t *testing.T, a, b []byte, count uint64, w, size, next, age, keep int64) {
		r := rules(keep, size, 0, next, age)
		l := []api.Entry{{Key: a, Agg: api.Agg{Count: count}}, {Key: b, Agg: agg.One(3)}}
		fits := Fits(r, l)
		got, e := Fold(r, w, l)
		stale, other := Stale(r, w, l)
		if e != other || e != api.OK && (len(got) != 0 || stale) || e == api.OK && !fits || e == api.ErrForm && fits {
			t.Fatalf("Fits %v, Fold %v, %v, Stale %v, %v", fits, got, e, stale, other)
		}
		if e != api.OK {
			return
		}
		if !same(got, plainFold(r, w, l)) || stale != plainStale(r, w, l) {
			t.Fatalf("Fold(%v, %d, %v) = %v, stale: %v", r, w, l, got, stale)
		}
		if again, e := Stale(r, w, got); again || e != api.OK {
			t.Fatalf("%v is stale, %v", got, e)
		}
	})
}
