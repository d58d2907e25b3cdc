package wal

import (
	"bytes"
	"encoding/binary"
	"math"
	"slices"
	"strconv"
	"strings"
	"testing"

	"rickyard/api"
	"rickyard/crc"
	"rickyard/simfs"
)

const lastTime = int64(1) << 40

// some is the next number of a row that is made by a rule.
func some(x uint32) uint32 {
	return x*1664525 + 1013904223
}

// factOf is a fact of some dimensions.
func factOf(at, value int64, dims ...string) api.Fact {
	return api.Fact{Dims: dims, At: at, Value: value}
}

// batchOf is a batch of some facts.
func batchOf(l ...api.Fact) Record {
	return Record{Facts: l, Mark: -1}
}

// rightFacts is facts that may be, at the edges.
func rightFacts() []api.Fact {
	long := strings.Repeat("x", 16)
	return []api.Fact{
		{}, {Dims: []string{}}, factOf(0, 0, ""), factOf(5, -7, "a"), factOf(lastTime, math.MaxInt64, "a", "b"),
		factOf(lastTime-1, math.MinInt64, "", "", "", ""), factOf(1, 1, long, long, long, long), factOf(7, -1, strings.Repeat("\x00", 16)),
		factOf(2, 3, "\x00", "\xff", "\x00\x01", "\x00\xff\x00"), factOf(3, 4, "\xff\xfe", "ä"), factOf(12, 3, "a", "", "b"),
	}
}

// wrongFacts is facts that may not be.
func wrongFacts() []api.Fact {
	return []api.Fact{
		factOf(-1, 0), factOf(lastTime+1, 0), factOf(math.MinInt64, 0, "a"), factOf(math.MaxInt64, 0, "a"), factOf(-1<<40, 0),
		factOf(0, 0, "a", "b", "c", "d", "e"), factOf(0, 0, "", "", "", "", ""), factOf(0, 0, strings.Repeat("x", 17)),
		factOf(0, 0, "a", "b", "c", strings.Repeat("\x00", 17)), factOf(0, 0, "a", strings.Repeat("x", 300), "c"), factOf(-1, 0, strings.Repeat("x", 17)),
	}
}

// many is so many facts, each another one.
func many(n int) []api.Fact {
	var l []api.Fact
	for i := range n {
		l = append(l, factOf(int64(i), int64(-i), "d", strconv.Itoa(i)))
	}
	return l
}

// most is a batch that has as many bytes as one can have.
func most() Record {
	zero := strings.Repeat("\x00", 16)
	return batchOf(slices.Repeat([]api.Fact{factOf(lastTime, math.MinInt64, zero, zero, zero, zero)}, 16)...)
}

// rightRecords is records that are right, at the edges.
func rightRecords() []Record {
	l := []Record{
		{}, {Mark: 5}, {Mark: 0, Facts: []api.Fact{}}, {Mark: lastTime}, {Mark: lastTime - 1}, {Mark: 1 << 33},
		batchOf(rightFacts()...), batchOf(many(1)...), batchOf(many(2)...), batchOf(many(15)...), batchOf(many(16)...), most(),
	}
	for _, x := range rightFacts() {
		l = append(l, batchOf(x), batchOf(many(2)[1], x))
	}
	return l
}

// wrongRecords is records that are not right.
func wrongRecords() []Record {
	l := []Record{
		{Mark: -1}, {Mark: -1, Facts: []api.Fact{}}, {Mark: -2}, {Mark: math.MinInt64}, {Mark: lastTime + 1}, {Mark: math.MaxInt64},
		{Facts: many(1)}, {Facts: many(1), Mark: 5}, {Facts: many(16), Mark: -2}, {Facts: many(2), Mark: math.MaxInt64}, {Facts: many(2), Mark: lastTime},
		batchOf(many(17)...), batchOf(many(18)...), batchOf(many(128)...), {Facts: many(17), Mark: 3},
	}
	for _, x := range wrongFacts() {
		l = append(l, batchOf(x), Record{Facts: []api.Fact{x}, Mark: 7})
		for at := range 3 {
			l = append(l, batchOf(slices.Insert(many(2), at, x)...))
		}
		l = append(l, batchOf(append(many(15), x)...), batchOf(append(many(16), x)...))
	}
	return l
}

// plainNumber is a number in order: those below 0 ahead of the others.
func plainNumber(v int64) []byte {
	b := binary.BigEndian.AppendUint64(nil, uint64(v))
	b[0] += 128
	return b
}

// plainFact is a fact's bytes, right or not.
func plainFact(x api.Fact) []byte {
	b := binary.AppendUvarint(nil, uint64(len(x.Dims)))
	for _, d := range x.Dims {
		b = append(b, strings.ReplaceAll(d, "\x00", "\x00\xff")+"\x00\x01"...)
	}
	b = append(b, plainNumber(x.At)...)
	return append(b, plainNumber(x.Value)...)
}

// plainBatch is a batch's bytes, right or not.
func plainBatch(l []api.Fact) []byte {
	b := binary.AppendUvarint([]byte{1}, uint64(len(l)))
	for _, x := range l {
		b = append(b, plainFact(x)...)
	}
	return b
}

// plainMark is a mark's bytes, right or not.
func plainMark(v int64) []byte {
	return append([]byte{2}, plainNumber(v)...)
}

func plainWrite(r Record) []byte {
	if len(r.Facts) == 0 {
		return plainMark(r.Mark)
	}
	return plainBatch(r.Facts)
}

// same tells whether two records are the same.
func same(a, b Record) bool {
	return a.Mark == b.Mark && slices.EqualFunc(a.Facts, b.Facts, func(x, y api.Fact) bool {
		return slices.Equal(x.Dims, y.Dims) && x.At == y.At && x.Value == y.Value
	})
}

// sameAll tells whether two rows of records are the same.
func sameAll(a, b []Record) bool {
	return slices.EqualFunc(a, b, same)
}

// none tells that bytes are no record's.
func none(t *testing.T, name string, b []byte) {
	t.Helper()
	if r, e := Read(b); e != api.ErrRecord || r.Facts != nil || r.Mark != 0 {
		t.Errorf("%s: Read(%v) = %v, %v", name, b, r, e)
	}
}

// disk is a file system with room.
func disk(t *testing.T, room int) *simfs.FS {
	t.Helper()
	f, e := simfs.New(room)
	if e != api.OK {
		t.Fatalf("New: %v", e)
	}
	return f
}

// started is a log that writes into a segment.
func started(t *testing.T, f *simfs.FS, n int) *Log {
	t.Helper()
	l, e := Start(f, n)
	if e != api.OK || l == nil {
		t.Fatalf("Start(%d): %v", n, e)
	}
	return l
}

// add writes records that may be written.
func add(t *testing.T, l *Log, records ...Record) {
	t.Helper()
	for _, r := range records {
		if e := l.Add(r); e != api.OK {
			t.Fatalf("Add(%v): %v", r, e)
		}
	}
}

// replays tells whether a segment has just these records.
func replays(t *testing.T, name string, f *simfs.FS, n int, want []Record) {
	t.Helper()
	if got, e := Replay(f, n); e != api.OK || !sameAll(got, want) {
		t.Errorf("%s: Replay(%d) = %v, %v, not %v", name, n, got, e, want)
	}
}

func TestP12_1May(t *testing.T) {
	for _, x := range rightFacts() {
		if !May(x) {
			t.Errorf("%v may not be", x)
		}
	}
	for _, x := range wrongFacts() {
		if May(x) {
			t.Errorf("%v may be", x)
		}
	}
}

func TestP12_1Write(t *testing.T) {
	for _, r := range rightRecords() {
		if b, e := Write(r); e != api.OK || !bytes.Equal(b, plainWrite(r)) {
			t.Errorf("Write(%v) = %v, %v", r, b, e)
		}
	}
	for _, r := range wrongRecords() {
		if b, e := Write(r); e != api.ErrRecord || len(b) != 0 {
			t.Errorf("Write(%v) = %v, %v", r, b, e)
		}
	}
}

func TestP12_1Example(t *testing.T) {
	if b, e := Write(Record{Mark: 5}); e != api.OK || !bytes.Equal(b, []byte{2, 128, 0, 0, 0, 0, 0, 0, 5}) {
		t.Errorf("Write = %v, %v", b, e)
	}
	want := []byte{1, 2, 1, 97, 0, 1, 128, 0, 0, 0, 0, 0, 0, 5, 127, 255, 255, 255, 255, 255, 255, 249, 0, 128, 0, 0, 0, 0, 0, 0, 6, 128, 0, 0, 0, 0, 0, 0, 7}
	if b, e := Write(batchOf(factOf(5, -7, "a"), factOf(6, 7))); e != api.OK || !bytes.Equal(b, want) {
		t.Errorf("Write = %v, %v", b, e)
	}
}

func TestP12_1Read(t *testing.T) {
	for _, r := range rightRecords() {
		if got, e := Read(plainWrite(r)); e != api.OK || !same(got, r) {
			t.Errorf("Read of %v = %v, %v", r, got, e)
		}
	}
	for _, x := range wrongFacts() {
		none(t, "one", plainBatch([]api.Fact{x}))
		for at := range 3 {
			none(t, "among others", plainBatch(slices.Insert(many(2), at, x)))
		}
		none(t, "the sixteenth", plainBatch(append(many(15), x)))
	}
	for _, n := range []int{17, 18, 127, 128, 300} {
		none(t, "too many", plainBatch(many(n)))
	}
	for _, v := range []int64{-1, -2, math.MinInt64, lastTime + 1, 2 * lastTime, math.MaxInt64} {
		none(t, "a mark", plainMark(v))
	}
}

func TestP12_1ReadCutOrLonger(t *testing.T) {
	for _, r := range rightRecords() {
		b := plainWrite(r)
		for n := range b {
			none(t, "cut", b[:n])
		}
		for _, x := range []byte{0, 1, 2, 128, 255} {
			none(t, "longer", append(slices.Clone(b), x))
		}
		none(t, "twice", append(slices.Clone(b), b...))
		none(t, "a fact more", append(slices.Clone(b), plainFact(factOf(1, 2))...))
	}
}

// Each byte that is another one makes another record, or none.
func TestP12_1ReadOtherBytes(t *testing.T) {
	for _, r := range rightRecords() {
		b := plainWrite(r)
		if len(b) > 300 {
			continue
		}
		for i := range b {
			for x := range 256 {
				other := slices.Clone(b)
				other[i] = byte(x)
				got, e := Read(other)
				if e == api.OK && !bytes.Equal(plainWrite(got), other) || e != api.OK && x == int(b[i]) {
					t.Fatalf("Read(%v) = %v, %v", other, got, e)
				}
			}
		}
	}
}

func TestP12_1ReadWrong(t *testing.T) {
	one := plainFact(factOf(5, -7, "a"))
	long := plainFact(factOf(5, -7, strings.Repeat("x", 17)))
	for name, b := range map[string][]byte{
		"nothing":                       nil,
		"a byte 0":                      {0},
		"a byte 1":                      {1},
		"a byte 2":                      {2},
		"a batch without facts":         {1, 0},
		"the first byte 0":              append([]byte{0}, plainMark(5)[1:]...),
		"the first byte 3":              append([]byte{3}, plainMark(5)[1:]...),
		"a mark as a batch":             append([]byte{1}, plainMark(5)[1:]...),
		"a batch as a mark":             append([]byte{2, 1}, one...),
		"a batch's first byte 3":        append([]byte{3, 1}, one...),
		"no facts, and one":             append([]byte{1, 0}, one...),
		"two facts, and one":            append([]byte{1, 2}, one...),
		"one fact, and two":             slices.Concat([]byte{1, 1}, one, one),
		"a count that is not short":     append([]byte{1, 129, 0}, one...),
		"a count that does not end":     {1, 129},
		"a count that does not fit":     {1, 255, 255, 255, 255, 255, 255, 255, 255, 255, 2},
		"very many facts":               append([]byte{1, 255, 255, 255, 255, 255, 255, 255, 255, 255, 1}, one...),
		"very many dimensions":          append([]byte{1, 1, 255, 255, 255, 255, 255, 255, 255, 255, 255, 1}, one...),
		"dimensions that are not short": slices.Concat([]byte{1, 1, 129, 0}, one[1:]),
		"more dimensions than counted":  slices.Concat([]byte{1, 1, 0}, one[1:]),
		"fewer dimensions than counted": slices.Concat([]byte{1, 1, 2}, one[1:]),
		"a long dimension":              append([]byte{1, 1}, long...),
		"a right fact and a wrong one":  slices.Concat([]byte{1, 2}, one, long),
		"a wrong fact and a right one":  slices.Concat([]byte{1, 2}, long, one),
		"seventeen facts":               slices.Concat([]byte{1, 17}, bytes.Repeat(one, 17)),
		"seventeen facts, as sixteen":   slices.Concat([]byte{1, 16}, bytes.Repeat(one, 17)),
		"sixteen facts, as seventeen":   slices.Concat([]byte{1, 17}, bytes.Repeat(one, 16)),
		"five dimensions":               plainBatch([]api.Fact{factOf(0, 0, "a", "b", "c", "d", "e")}),
		"a text without an end":         {1, 1, 1, 97},
		"a text with a 0 and a 2":       slices.Concat([]byte{1, 1, 1, 97, 0, 2}, one[4:]),
		"the mark -1":                   plainMark(-1),
		"a mark too late":               plainMark(lastTime + 1),
		"the greatest mark":             plainMark(math.MaxInt64),
		"the least mark":                plainMark(math.MinInt64),
	} {
		none(t, name, b)
	}
}

// numbers is the numbers that a file may have, at the edges; the greatest ones, if an int has them.
func numbers() []int {
	l := []int{1, 2, 9, 10, 12, 99, 100, 1000000, math.MaxInt32}
	for _, n := range []int64{1 << 39, 1<<40 - 1, 1 << 40} {
		if int64(int(n)) == n {
			l = append(l, int(n))
		}
	}
	return l
}

// noNumbers is numbers that no file has.
func noNumbers() []int {
	l := []int{0, -1, -12, math.MinInt32, math.MinInt}
	for _, n := range []int64{1<<40 + 1, 1 << 41, 1 << 62, math.MaxInt64} {
		if int64(int(n)) == n {
			l = append(l, int(n))
		}
	}
	return l
}

func prefixes() []string {
	return []string{"wal-", "man-", "run-", "", "1", "wal-1", "-", "+", "0", "\xff\x00", strings.Repeat("x", 100)}
}

func TestP12_2Name(t *testing.T) {
	if got := Name("wal-", 12); got != "wal-12" {
		t.Errorf("Name = %q", got)
	}
	for _, prefix := range prefixes() {
		for _, n := range numbers() {
			if got := Name(prefix, n); got != prefix+strconv.FormatInt(int64(n), 10) {
				t.Errorf("Name(%q, %d) = %q", prefix, n, got)
			}
		}
		for _, n := range noNumbers() {
			if got := Name(prefix, n); got != "" {
				t.Errorf("Name(%q, %d) = %q", prefix, n, got)
			}
		}
	}
}

func TestP12_2Number(t *testing.T) {
	for _, prefix := range prefixes() {
		for _, n := range numbers() {
			if got, ok := Number(prefix, prefix+strconv.Itoa(n)); !ok || got != n {
				t.Errorf("Number of %q and %d = %d, %v", prefix, n, got, ok)
			}
		}
		for _, digits := range []string{
			"", "0", "00", "01", "012", "-1", "+1", "--1", " 1", "1 ", "1.0", "1e3", "1_000", "0x1", "a", "1a", "x1", "\x001", "1\x00", "\u0661", "\uff11",
			"1099511627777", "1099511627780", "2199023255552", "9223372036854775807", "9223372036854775808", "18446744073709551617", strings.Repeat("1", 100), "-1099511627776",
		} {
			if got, ok := Number(prefix, prefix+digits); ok || got != 0 {
				t.Errorf("Number of %q and %q = %d, %v", prefix, digits, got, ok)
			}
		}
	}
	for _, x := range [][2]string{{"wal-", "man-1"}, {"wal-", "1"}, {"wal-", ""}, {"wal-", "wal"}, {"wal-", "Wal-1"}, {"wal-", "wal1"}, {"wal-", "xwal-1"}, {"wal-", "wal--1"}, {"wal-", "wal-wal-1"}, {"1", "2"}, {"12", "1"}, {"wal-12", "wal-1"}} {
		if got, ok := Number(x[0], x[1]); ok || got != 0 {
			t.Errorf("Number(%q, %q) = %d, %v", x[0], x[1], got, ok)
		}
	}
}

func TestP12_3Start(t *testing.T) {
	f := disk(t, 1000)
	for _, n := range numbers() {
		l := started(t, f, n)
		name := "wal-" + strconv.Itoa(n)
		if b, e := f.Read(name); e != api.OK || len(b) != 0 {
			t.Errorf("%s: %v, %v", name, b, e)
		}
		add(t, l, Record{Mark: 5})
		if b, e := f.Read(name); e != api.OK || len(b) != 17 {
			t.Errorf("%s: %v, %v", name, b, e)
		}
	}
	f.Crash(0, nil)
	if len(f.List()) != len(numbers()) {
		t.Errorf("names are not synced: %q", f.List())
	}
}

// refuses tells that a segment can't be started.
func refuses(t *testing.T, name string, f *simfs.FS, n int, want api.Errno) {
	t.Helper()
	if l, e := Start(f, n); l != nil || e != want {
		t.Errorf("%s: Start(%d) = %v, %v, not %v", name, n, l, e, want)
	}
}

func TestP12_3StartWrong(t *testing.T) {
	f := disk(t, 1000)
	started(t, f, 7)
	for _, n := range noNumbers() {
		refuses(t, "a number", f, n, api.ErrArg)
		refuses(t, "nil and a number", nil, n, api.ErrArg)
		f.Fail(0, api.ErrIO)
		refuses(t, "a plan and a number", f, n, api.ErrArg)
		f.Fail(-1, api.ErrIO)
	}
	refuses(t, "nil", nil, 1, api.ErrNil)
	refuses(t, "made by no call", &simfs.FS{}, 1, api.ErrNil)
	refuses(t, "there", f, 7, api.ErrExists)
	f.Fail(0, api.ErrSpace)
	refuses(t, "Create fails", f, 8, api.ErrSpace)
	f.Fail(0, api.ErrIO)
	refuses(t, "Create fails", f, 8, api.ErrIO)
	if !slices.Equal(f.List(), []string{"wal-7"}) {
		t.Errorf("List = %q", f.List())
	}
	f.Fail(1, api.ErrIO)
	refuses(t, "SyncDir fails", f, 8, api.ErrIO)
	f.Fail(1, api.ErrSpace)
	refuses(t, "SyncDir fails", f, 9, api.ErrSpace)
	f.Fail(2, api.ErrIO)
	started(t, f, 10)
	if e := f.SyncDir(); e != api.ErrIO {
		t.Errorf("Start makes more than two calls: %v", e)
	}
	for i := 11; len(f.List()) < 256; i++ {
		started(t, f, i)
	}
	refuses(t, "full", f, 1000, api.ErrSpace)
	refuses(t, "full, and there", f, 7, api.ErrExists)
}

func TestP12_3Nil(t *testing.T) {
	for _, l := range []*Log{nil, {}} {
		for _, r := range append(rightRecords(), wrongRecords()...) {
			if e := l.Add(r); e != api.ErrNil {
				t.Errorf("Add(%v) = %v", r, e)
			}
		}
		if e := l.Sync(); e != api.ErrNil {
			t.Errorf("Sync = %v", e)
		}
	}
}

func TestP12_3Add(t *testing.T) {
	f := disk(t, 100000)
	l := started(t, f, 3)
	var want []byte
	for _, r := range rightRecords() {
		add(t, l, r)
		frame, _ := crc.Frame(plainWrite(r))
		want = append(want, frame...)
		if b, e := f.Read("wal-3"); e != api.OK || !bytes.Equal(b, want) {
			t.Fatalf("behind %v: %v, %v", r, b, e)
		}
	}
	for _, r := range wrongRecords() {
		if e := l.Add(r); e != api.ErrRecord {
			t.Errorf("Add(%v) = %v", r, e)
		}
	}
	if b, e := f.Read("wal-3"); e != api.OK || !bytes.Equal(b, want) {
		t.Errorf("behind wrong ones: %v, %v", b, e)
	}
}

// The longest record is far less than a frame holds, so that no record is too long for one.
func TestP12_3Longest(t *testing.T) {
	b, e := Write(most())
	if e != api.OK || len(b) != 2+16*(1+4*34+16) {
		t.Errorf("%d bytes, %v", len(b), e)
	}
	if len(b) > api.MaxFrame {
		t.Errorf("%d bytes are more than a frame has", len(b))
	}
}

func TestP12_3AddFails(t *testing.T) {
	f := disk(t, 40) // two marks, and no third one
	l := started(t, f, 3)
	refused := func(name string, r Record, want api.Errno) {
		t.Helper()
		ahead, _ := f.Read("wal-3")
		if e := l.Add(r); e != want {
			t.Errorf("%s: Add(%v) = %v, not %v", name, r, e, want)
		}
		if behind, _ := f.Read("wal-3"); !bytes.Equal(ahead, behind) {
			t.Errorf("%s: %v", name, behind)
		}
	}
	f.Fail(0, api.ErrIO)
	refused("wrong, and a plan", Record{Mark: -1}, api.ErrRecord)
	refused("a plan", Record{Mark: 1}, api.ErrIO)
	add(t, l, Record{Mark: 2}, Record{Mark: 3})
	refused("no room", Record{Mark: 4}, api.ErrSpace)
	refused("wrong, no room", Record{Mark: -4}, api.ErrRecord)
	replays(t, "no room", f, 3, []Record{{Mark: 2}, {Mark: 3}})
	f.Rename("wal-3", "wal-4")
	if e := l.Add(Record{Mark: 4}); e != api.ErrNone {
		t.Errorf("renamed: Add = %v", e)
	}
	if e := l.Sync(); e != api.ErrNone {
		t.Errorf("renamed: Sync = %v", e)
	}
	if e := l.Add(Record{Mark: -4}); e != api.ErrRecord {
		t.Errorf("wrong, renamed: Add = %v", e)
	}
}

func TestP12_3AddLongFile(t *testing.T) {
	f := disk(t, 1<<30)
	l := started(t, f, 1)
	f.Append("wal-1", make([]byte, api.MaxFile-20))
	add(t, l, Record{Mark: 5})
	if e := l.Add(Record{Mark: 6}); e != api.ErrLong {
		t.Errorf("Add = %v", e)
	}
}

func TestP12_3Sync(t *testing.T) {
	f := disk(t, 1000)
	l := started(t, f, 1)
	other := started(t, f, 2)
	add(t, l, Record{Mark: 1}, batchOf(many(2)...))
	add(t, other, Record{Mark: 7})
	f.Fail(0, api.ErrIO)
	if e := l.Sync(); e != api.ErrIO {
		t.Errorf("Sync = %v", e)
	}
	if e := l.Sync(); e != api.OK {
		t.Errorf("Sync = %v", e)
	}
	add(t, l, Record{Mark: 2})
	f.Crash(0, nil)
	replays(t, "synced", f, 1, []Record{{Mark: 1}, batchOf(many(2)...)})
	replays(t, "not synced", f, 2, nil)
	add(t, l, Record{Mark: 3})
	replays(t, "on behind a crash", f, 1, []Record{{Mark: 1}, batchOf(many(2)...), {Mark: 3}})
}

func TestP12_4Replay(t *testing.T) {
	f := disk(t, 100000)
	l := started(t, f, 12)
	replays(t, "empty", f, 12, nil)
	for i, r := range rightRecords() {
		add(t, l, r)
		replays(t, "so far", f, 12, rightRecords()[:i+1])
	}
}

func TestP12_4ReplayWrong(t *testing.T) {
	f := disk(t, 1000)
	started(t, f, 1)
	wrong := func(name string, f *simfs.FS, n int, want api.Errno) {
		t.Helper()
		if l, e := Replay(f, n); len(l) != 0 || e != want {
			t.Errorf("%s: Replay(%d) = %v, %v, not %v", name, n, l, e, want)
		}
	}
	for _, n := range noNumbers() {
		wrong("a number", f, n, api.ErrArg)
		wrong("nil and a number", nil, n, api.ErrArg)
	}
	wrong("nil", nil, 1, api.ErrNil)
	wrong("made by no call", &simfs.FS{}, 1, api.ErrNil)
	wrong("not there", f, 2, api.ErrNone)
	f.Remove("wal-1")
	wrong("removed", f, 1, api.ErrNone)
}

// frames is the frames of some data.
func frames(data ...[]byte) []byte {
	var b []byte
	for _, d := range data {
		frame, _ := crc.Frame(d)
		b = append(b, frame...)
	}
	return b
}

func TestP12_4ReplayUpToNone(t *testing.T) {
	one, two := plainMark(1), plainBatch(many(2))
	broken := frames(two)
	broken[9] ^= 1
	for name, x := range map[string]struct {
		b    []byte
		want int
	}{
		"two":                                 {frames(one, two), 2},
		"two and a byte":                      {append(frames(one, two), 0), 2},
		"two and noughts":                     {append(frames(one, two), make([]byte, 7)...), 2},
		"an empty frame, then a record":       {frames(one, two, nil, one), 2},
		"no record, then one":                 {frames(one, []byte{3}, two), 1},
		"a record with a byte more, then one": {frames(one, append(slices.Clone(two), 0), two), 1},
		"a wrong mark, then a record":         {frames(one, plainMark(-1), two), 1},
		"too many facts, then a record":       {frames(one, plainBatch(many(17)), two), 1},
		"no record at all":                    {frames([]byte{3}, one, two), 0},
		"a broken frame, then one":            {slices.Concat(frames(one), broken, frames(two)), 1},
		"a broken frame alone":                {slices.Concat(broken, frames(one, two)), 0},
		"bytes alone":                         {[]byte("no frames at all"), 0},
		"a frame too long":                    {slices.Concat(frames(one), []byte{0, 0, 1, 0}, make([]byte, 65544)), 1},
	} {
		f := disk(t, 1<<20)
		started(t, f, 1)
		f.Append("wal-1", x.b)
		replays(t, name, f, 1, []Record{{Mark: 1}, batchOf(many(2)...)}[:x.want])
	}
}

func TestP12_5Records(t *testing.T) {
	for _, r := range rightRecords() {
		b, e := Write(r)
		if e != api.OK {
			t.Fatalf("Write(%v): %v", r, e)
		}
		if got, e := Read(b); e != api.OK || !same(got, r) {
			t.Errorf("Read(%v) = %v, %v", b, got, e)
		}
	}
}

func TestP12_5Names(t *testing.T) {
	for _, prefix := range prefixes() {
		for _, n := range numbers() {
			if got, ok := Number(prefix, Name(prefix, n)); !ok || got != n {
				t.Errorf("%q, %d: %d, %v", prefix, n, got, ok)
			}
		}
		for _, n := range noNumbers() {
			if got, ok := Number(prefix, Name(prefix, n)); ok || got != 0 {
				t.Errorf("%q, %d: %d, %v", prefix, n, got, ok)
			}
		}
	}
}

// Each crash at each byte that was not synced keeps whole records: the synced ones, and a front.
func TestP12_6WholeRecords(t *testing.T) {
	all := []Record{{Mark: 3}, batchOf(many(1)...), {Mark: 4}, batchOf(rightFacts()[3], rightFacts()[8]), {}, batchOf(many(3)...)}
	ends := []int{0}
	for _, r := range all {
		ends = append(ends, ends[len(ends)-1]+len(plainWrite(r))+8)
	}
	for synced := range len(all) + 1 {
		for keep := -1; keep <= ends[len(all)]-ends[synced]+1; keep++ {
			f := disk(t, 10000)
			l := started(t, f, 1)
			add(t, l, all[:synced]...)
			if e := l.Sync(); e != api.OK {
				t.Fatalf("Sync: %v", e)
			}
			add(t, l, all[synced:]...)
			f.Crash(0, []int{keep})
			whole := synced
			for whole < len(all) && ends[whole+1]-ends[synced] <= keep {
				whole++
			}
			replays(t, "a crash", f, 1, all[:whole])
			f.Crash(1, []int{1})
			replays(t, "a second crash", f, 1, all[:whole])
		}
	}
}

// recordOf is a record that is made by a rule.
func recordOf(x uint32) Record {
	if x>>8%3 == 0 {
		return Record{Mark: int64(x >> 10)}
	}
	return batchOf(many(1 + int(x>>12%4))...)
}

// wrote is what was written into a segment, and how much of it was synced.
type wrote struct {
	records []Record
	synced  int
}

// Segments are written one after another, calls fail, and then comes a crash: each has all records that were synced, and a front of the others.
func TestP3SegmentsBehindFailuresAndCrashes(t *testing.T) {
	x := uint32(5)
	for range 8000 {
		f := disk(t, 1200)
		told := map[int]*wrote{}
		var l *Log
		n := 0
		for range 25 {
			x = some(x)
			switch x >> 16 % 8 {
			case 0:
				next, e := Start(f, n+1)
				n++
				l = next
				if e == api.OK {
					told[n] = &wrote{}
				}
			case 1, 2:
				if l.Sync() == api.OK {
					told[n].synced = len(told[n].records)
				}
			case 3:
				f.Fail(int(x>>20%4), api.ErrSpace+api.Errno(x>>24%2))
			default:
				if r := recordOf(x); l.Add(r) == api.OK {
					told[n].records = append(told[n].records, r)
				}
			}
		}
		x = some(x)
		f.Crash(int(x>>20%4), []int{int(x >> 16 % 90), int(x >> 18 % 90), int(x >> 22 % 90), int(x >> 24 % 90)})
		for n, w := range told {
			got, e := Replay(f, n)
			if e != api.OK || len(got) < w.synced || len(got) > len(w.records) || !sameAll(got, w.records[:len(got)]) {
				t.Fatalf("segment %d: %v, %v, of %v", n, got, e, w)
			}
		}
	}
}

func TestP1NewMemory(t *testing.T) {
	facts := many(3)
	facts[0].Dims = append(make([]string, 0, 5), "d", "0")
	r := Record{Facts: facts[:2], Mark: -1}
	b, _ := Write(r)
	again, _ := Write(r)
	for i := range b {
		b[i] = 99
	}
	if !bytes.Equal(again, plainBatch(many(2))) {
		t.Errorf("two answers share memory: %v", again)
	}
	if !same(batchOf(facts...), batchOf(many(3)...)) {
		t.Errorf("what was handed in has changed: %v", facts)
	}
	one, _ := Read(again)
	two, _ := Read(again)
	for i := range again {
		again[i] = 99
	}
	one.Facts[0].Dims[0] = "x"
	one.Facts[1].Value = 7
	_ = append(one.Facts[0].Dims, "y")
	if !same(two, batchOf(many(2)...)) {
		t.Errorf("two answers share memory: %v", two)
	}
	if !same(batchOf(one.Facts[1]), batchOf(factOf(1, 7, "d", "1"))) {
		t.Errorf("two lists of one answer share memory: %v", one)
	}
	f := disk(t, 1000)
	l := started(t, f, 1)
	add(t, l, r)
	facts[0].Dims[0], facts[1].At = "x", 99
	replays(t, "what is kept", f, 1, []Record{batchOf(many(2)...)})
	all, _ := Replay(f, 1)
	all[0].Facts[0].Dims[0] = "x"
	replays(t, "what was told", f, 1, []Record{batchOf(many(2)...)})
}

// What lies behind a list's length is neither read nor written.
func TestP1BehindLength(t *testing.T) {
	long := append(plainMark(5), 1, 2, 3)
	if r, e := Read(long[:9]); e != api.OK || r.Mark != 5 || !bytes.Equal(long[9:], []byte{1, 2, 3}) {
		t.Errorf("Read = %v, %v, %v", r, e, long)
	}
	dims := []string{"a", "b", "c", "d", "e"}
	if !May(api.Fact{Dims: dims[:4]}) || May(api.Fact{Dims: dims}) {
		t.Errorf("May reads behind a list's length")
	}
}

func FuzzRead(f *testing.F) {
	for _, r := range rightRecords() {
		f.Add(plainWrite(r))
	}
	for _, r := range wrongRecords() {
		f.Add(plainWrite(r))
	}
	f.Fuzz(func(t *testing.T, b []byte) {
		r, e := Read(b)
		switch e {
		case api.OK:
			if again, e := Write(r); e != api.OK || !bytes.Equal(again, b) || !bytes.Equal(plainWrite(r), b) {
				t.Errorf("Read(%v) = %v", b, r)
			}
		case api.ErrRecord:
			if r.Facts != nil || r.Mark != 0 {
				t.Errorf("Read(%v) = %v, %v", b, r, e)
			}
		default:
			t.Errorf("Read(%v): %v", b, e)
		}
	})
}

func FuzzNumber(f *testing.F) {
	f.Add("wal-", "wal-12")
	f.Add("", "0")
	f.Add("1", "11")
	f.Fuzz(func(t *testing.T, prefix, name string) {
		n, ok := Number(prefix, name)
		if ok && (Name(prefix, n) != name || n < 1) || !ok && n != 0 {
			t.Errorf("Number(%q, %q) = %d, %v", prefix, name, n, ok)
		}
		if again, ok := Number(prefix, Name(prefix, len(name)+1)); !ok || again != len(name)+1 {
			t.Errorf("%q, %d: %d, %v", prefix, len(name)+1, again, ok)
		}
	})
}
