package manifest

import (
	"bytes"
	"encoding/binary"
	"math"
	"slices"
	"strconv"
	"testing"

	"rickyard/api"
	"rickyard/crc"
	"rickyard/simfs"
)

const (
	lastTime = int64(1) << 40
	lastFile = 1 << 40
)

// some is the next number of a row that is made by a rule.
func some(x uint32) uint32 {
	return x*1664525 + 1013904223
}

// stateOf is a state with some runs.
func stateOf(log, next int, mark int64, runs ...Run) State {
	return State{Runs: runs, Log: log, Next: next, Mark: mark}
}

// newest is so many runs of level 0, the newest first, with the files from n on down.
func newest(n int) []Run {
	var l []Run
	for file := n; file >= 1; file-- {
		l = append(l, Run{File: file, Count: file})
	}
	return l
}

// ladder is a run of each level.
func ladder() []Run {
	return []Run{{4, 0, 1}, {7, 1, 2}, {3, 2, 4095}, {9, 3, 4096}}
}

// rightStates is states that are right, at the edges.
func rightStates() []State {
	return []State{
		stateOf(1, 2, 0), {Runs: []Run{}, Log: 1, Next: 2}, stateOf(1, lastFile, lastTime), stateOf(lastFile-1, lastFile, lastTime-1),
		stateOf(1, 2, 0, Run{1, 0, 1}), stateOf(1, 2, 0, Run{1, 3, 4096}), stateOf(2, 9, 4, Run{3, 0, 5}), stateOf(3, 10, 7, ladder()...),
		stateOf(1, lastFile, 5, Run{lastFile - 1, 0, 7}), stateOf(5, 10, 0, newest(9)...), stateOf(1, 65, 1, newest(64)...),
		stateOf(1, 10, 1, Run{9, 0, 1}, Run{2, 0, 1}, Run{1, 0, 1}, Run{5, 2, 1}), stateOf(1, 10, 1, Run{1, 0, 1}, Run{9, 3, 1}),
		stateOf(1, 100, 1, append(newest(61), Run{62, 1, 1}, Run{63, 2, 1}, Run{64, 3, 1})...),
	}
}

// wrongStates is states that are not right.
func wrongStates() []State {
	return []State{
		{}, stateOf(0, 2, 0), stateOf(1, 1, 0), stateOf(1, 0, 0), stateOf(2, 2, 0), stateOf(3, 2, 0), stateOf(-1, 2, 0), stateOf(1, -1, 0), stateOf(0, 1, 0),
		stateOf(1, lastFile+1, 0), stateOf(1, math.MaxInt, 0), stateOf(1, math.MinInt, 0), stateOf(math.MinInt, 2, 0), stateOf(math.MaxInt, 2, 0), stateOf(math.MaxInt, math.MinInt, 0),
		stateOf(1, 2, -1), stateOf(1, 2, lastTime+1), stateOf(1, 2, math.MinInt64), stateOf(1, 2, math.MaxInt64), stateOf(lastFile, lastFile+1, 0), stateOf(lastFile, lastFile, 0),
		stateOf(1, 2, 0, Run{2, 0, 1}), stateOf(1, 2, 0, Run{0, 0, 1}), stateOf(1, 2, 0, Run{-1, 0, 1}), stateOf(1, 2, 0, Run{math.MaxInt, 0, 1}), stateOf(1, 2, 0, Run{math.MinInt, 0, 1}),
		stateOf(1, 2, 0, Run{1, -1, 1}), stateOf(1, 2, 0, Run{1, 4, 1}), stateOf(1, 2, 0, Run{1, math.MaxInt, 1}), stateOf(1, 2, 0, Run{1, math.MinInt, 1}),
		stateOf(1, 2, 0, Run{1, 0, 0}), stateOf(1, 2, 0, Run{1, 0, -1}), stateOf(1, 2, 0, Run{1, 0, 4097}), stateOf(1, 2, 0, Run{1, 0, math.MaxInt}), stateOf(1, 2, 0, Run{}),
		stateOf(1, 10, 0, Run{1, 0, 1}, Run{2, 0, 1}), stateOf(1, 10, 0, Run{1, 0, 1}, Run{1, 0, 1}), stateOf(1, 10, 0, Run{1, 1, 1}, Run{2, 0, 1}),
		stateOf(1, 10, 0, Run{2, 1, 1}, Run{1, 1, 1}), stateOf(1, 10, 0, Run{1, 2, 1}, Run{2, 2, 1}), stateOf(1, 10, 0, Run{2, 3, 1}, Run{1, 3, 1}),
		stateOf(1, 10, 0, Run{5, 0, 1}, Run{5, 1, 1}), stateOf(1, 10, 0, Run{5, 0, 1}, Run{4, 0, 1}, Run{3, 1, 1}, Run{4, 2, 1}), stateOf(1, 10, 0, Run{5, 0, 1}, Run{3, 2, 1}, Run{5, 3, 1}),
		stateOf(1, 100, 0, newest(65)...), stateOf(1, 100, 0, newest(66)...), stateOf(1, 1000, 0, newest(500)...), stateOf(1, 65, 0, append(newest(63), Run{64, 0, 1})...),
		stateOf(1, 100, 1, append(newest(62), Run{63, 1, 1}, Run{64, 2, 1}, Run{65, 3, 1})...), stateOf(1, 9, 0, newest(9)...),
	}
}

// plainRight tells whether a state is right, by counting.
func plainRight(s State) bool {
	files, levels := map[int]int{}, map[int]int{}
	good := len(s.Runs) <= 64 && s.Next <= lastFile && s.Mark >= 0 && s.Mark <= lastTime && s.Log > 0 && s.Log < s.Next
	for i, r := range s.Runs {
		files[r.File]++
		levels[r.Level]++
		good = good && r.File > 0 && r.File < s.Next && r.Level >= 0 && r.Level < 4 && r.Count > 0 && r.Count <= 4096 && files[r.File] == 1
		good = good && (r.Level == 0 || levels[r.Level] == 1)
		for _, ahead := range s.Runs[:i] {
			good = good && (ahead.Level < r.Level || ahead.Level == r.Level && ahead.File > r.File)
		}
	}
	return good
}

// plainApply is a right state with an edit; false, if it can't be applied.
func plainApply(s State, x Edit) (State, bool) {
	runs := map[int]Run{}
	for _, r := range s.Runs {
		runs[r.File] = r
	}
	for _, file := range x.Drop {
		if _, ok := runs[file]; !ok {
			return State{}, false
		}
		delete(runs, file)
	}
	for _, r := range x.Add {
		if _, ok := runs[r.File]; ok {
			return State{}, false
		}
		runs[r.File] = r
	}
	out := State{Log: x.Log, Next: x.Next, Mark: x.Mark}
	for level := range 4 {
		var files []int
		for file, r := range runs {
			if r.Level == level {
				files = append(files, file)
			}
		}
		slices.Sort(files)
		for _, file := range slices.Backward(files) {
			out.Runs = append(out.Runs, runs[file])
		}
	}
	good := len(out.Runs) == len(runs) && x.Log >= s.Log && x.Next >= s.Next && x.Mark >= s.Mark
	return out, good && plainRight(out)
}

// sameState tells whether two states are the same.
func sameState(a, b State) bool {
	return slices.Equal(a.Runs, b.Runs) && a.Log == b.Log && a.Next == b.Next && a.Mark == b.Mark
}

// sameEdit tells whether two edits are the same.
func sameEdit(a, b Edit) bool {
	return slices.Equal(a.Drop, b.Drop) && slices.Equal(a.Add, b.Add) && a.Log == b.Log && a.Next == b.Next && a.Mark == b.Mark
}

// isZero tells whether a state is that of an error.
func isZero(s State) bool {
	return len(s.Runs) == 0 && s.Log == 0 && s.Next == 0 && s.Mark == 0
}

// applied is a state with an edit that can be applied.
func applied(t *testing.T, s State, x Edit) State {
	t.Helper()
	want, ok := plainApply(s, x)
	got, e := Apply(s, x)
	if !ok || e != api.OK || !sameState(got, want) {
		t.Fatalf("Apply(%v, %v) = %v, %v, not %v", s, x, got, e, want)
	}
	return got
}

// refusedEdit tells that an edit can't be applied.
func refusedEdit(t *testing.T, name string, s State, x Edit) {
	t.Helper()
	if got, e := Apply(s, x); e != api.ErrEdit || !isZero(got) {
		t.Errorf("%s: Apply(%v, %v) = %v, %v", name, s, x, got, e)
	}
}

// keeping is the edit that changes nothing of a state.
func keeping(s State) Edit {
	return Edit{Log: s.Log, Next: s.Next, Mark: s.Mark}
}

// making is the edit that makes a state of nothing.
func making(s State) Edit {
	return Edit{Add: s.Runs, Log: s.Log, Next: s.Next, Mark: s.Mark}
}

func TestP13_1Right(t *testing.T) {
	for _, s := range rightStates() {
		if !Right(s) || !plainRight(s) {
			t.Errorf("%v is not right", s)
		}
	}
	for _, s := range wrongStates() {
		if Right(s) || plainRight(s) {
			t.Errorf("%v is right", s)
		}
	}
}

// madeState is a state, often a right one, of small numbers, made by a rule.
func madeState(x uint32) (State, uint32) {
	x = some(x)
	s := State{Log: int(x >> 16 % 3), Next: 2 + int(x>>20%8), Mark: int64(x>>24%9) - 1}
	for range x >> 18 % 5 {
		x = some(x)
		s.Runs = append(s.Runs, Run{File: int(x >> 16 % 9), Level: int(x>>20%6) - 1, Count: int(x >> 24 % 9)})
	}
	if x>>8%8 != 0 {
		slices.SortFunc(s.Runs, order)
	}
	return s, x
}

func TestP13_1RightMadeByRule(t *testing.T) {
	x, rights := uint32(1), 0
	for range 300000 {
		var s State
		s, x = madeState(x)
		if Right(s) != plainRight(s) {
			t.Fatalf("Right(%v) = %v", s, Right(s))
		}
		if Right(s) {
			rights++
		}
	}
	if rights < 10000 {
		t.Errorf("%d are right", rights)
	}
}

func TestP13_1Apply(t *testing.T) {
	s := stateOf(2, 10, 5, ladder()...)
	for name, x := range map[string]Edit{
		"nothing":                    keeping(s),
		"a flush":                    {Add: []Run{{11, 0, 7}}, Log: 10, Next: 12, Mark: 6},
		"an older file at level 0":   {Add: []Run{{2, 0, 7}}, Log: 2, Next: 10, Mark: 5},
		"all go":                     {Drop: []int{9, 4, 3, 7}, Log: 2, Next: 10, Mark: 5},
		"two put together":           {Drop: []int{4, 7}, Add: []Run{{10, 1, 3}}, Log: 2, Next: 11, Mark: 9},
		"a level's run for another":  {Drop: []int{9}, Add: []Run{{1, 3, 4096}}, Log: 3, Next: 10, Mark: lastTime},
		"a file goes and comes":      {Drop: []int{7}, Add: []Run{{7, 0, 1}}, Log: 2, Next: 10, Mark: 5},
		"those that come unsorted":   {Drop: []int{7}, Add: []Run{{20, 1, 1}, {30, 0, 1}, {40, 0, 2}, {35, 0, 3}}, Log: 39, Next: 41, Mark: 5},
		"the greatest numbers":       {Log: lastFile - 1, Next: lastFile, Mark: lastTime},
		"the greatest of a run":      {Add: []Run{{lastFile - 1, 0, 4096}}, Log: 2, Next: lastFile, Mark: 5},
		"sixty more":                 {Add: movedUp(newest(60), 100), Log: 2, Next: 200, Mark: 5},
		"all go, sixty-four come":    {Drop: []int{3, 4, 7, 9}, Add: newest(64), Log: 2, Next: 65, Mark: 5},
		"those that go, come higher": {Drop: []int{4}, Add: []Run{{11, 0, 1}, {12, 0, 1}}, Log: 9, Next: 13, Mark: 5},
	} {
		if got := applied(t, s, x); !Right(got) {
			t.Errorf("%s: %v is not right", name, got)
		}
	}
}

// movedUp is runs with files that are so much greater.
func movedUp(l []Run, by int) []Run {
	l = slices.Clone(l)
	for i := range l {
		l[i].File += by
	}
	return l
}

// The newest run comes first within its level, and levels rise, however they come.
func TestP13_1ApplyOrder(t *testing.T) {
	s := stateOf(1, 5, 0, Run{3, 0, 1}, Run{2, 2, 1})
	got, e := Apply(s, Edit{Add: []Run{{1, 3, 9}, {4, 1, 9}, {2, 0, 8}, {5, 0, 7}}, Drop: []int{2}, Log: 1, Next: 6})
	if want := stateOf(1, 6, 0, Run{5, 0, 7}, Run{3, 0, 1}, Run{2, 0, 8}, Run{4, 1, 9}, Run{1, 3, 9}); e != api.OK || !sameState(got, want) {
		t.Errorf("Apply = %v, %v", got, e)
	}
}

func TestP13_1ApplyWrongEdit(t *testing.T) {
	s := stateOf(2, 10, 5, ladder()...)
	for name, x := range map[string]Edit{
		"the zero edit":            {},
		"drops none of a run's":    {Drop: []int{5}, Log: 2, Next: 10, Mark: 5},
		"drops what it adds":       {Drop: []int{5}, Add: []Run{{5, 0, 1}}, Log: 2, Next: 10, Mark: 5},
		"drops 0":                  {Drop: []int{0}, Log: 2, Next: 10, Mark: 5},
		"drops below 0":            {Drop: []int{-4}, Log: 2, Next: 10, Mark: 5},
		"drops twice":              {Drop: []int{4, 4}, Log: 2, Next: 10, Mark: 5},
		"drops twice, apart":       {Drop: []int{4, 3, 7, 4}, Log: 2, Next: 10, Mark: 5},
		"drops twice, adds again":  {Drop: []int{4, 4}, Add: []Run{{4, 0, 1}}, Log: 2, Next: 10, Mark: 5},
		"drops one and none":       {Drop: []int{4, 5}, Log: 2, Next: 10, Mark: 5},
		"drops very many":          {Drop: slices.Repeat([]int{4}, 1000), Log: 2, Next: 10, Mark: 5},
		"adds what is there":       {Add: []Run{{4, 0, 1}}, Log: 2, Next: 10, Mark: 5},
		"adds it at another level": {Add: []Run{{9, 0, 1}}, Log: 2, Next: 10, Mark: 5},
		"adds one twice":           {Add: []Run{{8, 0, 1}, {8, 0, 1}}, Log: 2, Next: 10, Mark: 5},
		"a second run of a level":  {Add: []Run{{8, 1, 1}}, Log: 2, Next: 10, Mark: 5},
		"two runs of a level":      {Drop: []int{7}, Add: []Run{{8, 1, 1}, {6, 1, 1}}, Log: 2, Next: 10, Mark: 5},
		"adds the next file":       {Add: []Run{{10, 0, 1}}, Log: 2, Next: 10, Mark: 5},
		"adds the file 0":          {Add: []Run{{0, 0, 1}}, Log: 2, Next: 10, Mark: 5},
		"no level, below":          {Add: []Run{{8, -1, 1}}, Log: 2, Next: 10, Mark: 5},
		"no level, above":          {Add: []Run{{8, 4, 1}}, Log: 2, Next: 10, Mark: 5},
		"no entries":               {Add: []Run{{8, 0, 0}}, Log: 2, Next: 10, Mark: 5},
		"too many entries":         {Add: []Run{{8, 0, 4097}}, Log: 2, Next: 10, Mark: 5},
		"sixty-five runs":          {Add: movedUp(newest(61), 100), Log: 2, Next: 200, Mark: 5},
		"sixty-five for four":      {Drop: []int{3, 4, 7, 9}, Add: newest(65), Log: 2, Next: 100, Mark: 5},
		"very many runs":           {Add: slices.Repeat([]Run{{8, 0, 1}}, 10000), Log: 2, Next: 10, Mark: 5},
		"a lesser Log":             {Log: 1, Next: 10, Mark: 5},
		"a lesser Next":            {Drop: []int{9}, Log: 2, Next: 9, Mark: 5},
		"a lesser Mark":            {Log: 2, Next: 10, Mark: 4},
		"Log and Next are one":     {Log: 10, Next: 10, Mark: 5},
		"Log above Next":           {Log: 11, Next: 10, Mark: 5},
		"Next beyond":              {Log: 2, Next: lastFile + 1, Mark: 5},
		"Mark beyond":              {Log: 2, Next: 10, Mark: lastTime + 1},
		"the least numbers":        {Log: math.MinInt, Next: math.MinInt, Mark: math.MinInt64},
		"the greatest numbers":     {Log: math.MaxInt, Next: math.MaxInt, Mark: math.MaxInt64},
	} {
		refusedEdit(t, name, s, x)
	}
}

func TestP13_1ApplyWrongState(t *testing.T) {
	for _, s := range wrongStates() {
		for _, x := range []Edit{{}, keeping(s), {Drop: []int{1, 1}}, {Log: 1, Next: 100}} {
			if got, e := Apply(s, x); e != api.ErrArg || !isZero(got) {
				t.Errorf("Apply(%v, %v) = %v, %v", s, x, got, e)
			}
		}
	}
}

// madeEdit is an edit of small numbers, made by a rule, for a state.
func madeEdit(s State, x uint32) (Edit, uint32) {
	x = some(x)
	y := Edit{Log: s.Log + int(x>>16%5)/3, Next: s.Next + int(x>>20%8) - 1, Mark: s.Mark + int64(x>>24%8) - 1}
	for _, r := range s.Runs {
		if x = some(x); x>>16%3 == 0 {
			y.Drop = append(y.Drop, r.File)
		}
	}
	if x = some(x); x>>16%12 == 0 {
		y.Drop = append(y.Drop, int(x>>20%12))
	}
	for range x >> 24 % 3 {
		x = some(x)
		y.Add = append(y.Add, Run{File: int(x >> 16 % 12), Level: int(x >> 20 % 9 / 2), Count: int(x >> 24 % 20)})
	}
	return y, x
}

func TestP13_1ApplyMadeByRule(t *testing.T) {
	x, done := uint32(3), 0
	for range 300000 {
		var s State
		var y Edit
		s, x = madeState(x)
		y, x = madeEdit(s, x)
		got, e := Apply(s, y)
		want, ok := plainApply(s, y)
		switch {
		case !plainRight(s):
			ok = e == api.ErrArg && isZero(got)
		case !ok:
			ok = e == api.ErrEdit && isZero(got)
		default:
			done++
			ok = e == api.OK && sameState(got, want)
		}
		if !ok {
			t.Fatalf("Apply(%v, %v) = %v, %v, not %v", s, y, got, e, want)
		}
	}
	if done < 5000 {
		t.Errorf("%d were applied", done)
	}
}

// plainWrite is an edit's bytes, right or not.
func plainWrite(x Edit) []byte {
	b := binary.AppendUvarint(nil, uint64(len(x.Drop)))
	for _, file := range x.Drop {
		b = binary.AppendUvarint(b, uint64(file))
	}
	b = binary.AppendUvarint(b, uint64(len(x.Add)))
	for _, r := range x.Add {
		b = binary.AppendUvarint(b, uint64(r.File))
		b = binary.AppendUvarint(b, uint64(r.Level))
		b = binary.AppendUvarint(b, uint64(r.Count))
	}
	b = binary.AppendUvarint(b, uint64(x.Log))
	b = binary.AppendUvarint(b, uint64(x.Next))
	return binary.AppendUvarint(b, uint64(x.Mark))
}

// rightEdits is edits that have bytes, at the edges; many can't be applied to any state.
func rightEdits() []Edit {
	l := []Edit{
		{}, {Drop: []int{}, Add: []Run{}}, {Drop: []int{0}}, {Drop: []int{5, 5, 5}}, {Add: []Run{{}}}, {Log: 5, Next: 3, Mark: 1},
		{Drop: []int{1, 127, 128, 300}, Add: []Run{{1, 2, 3}, {400, 500, 600}}, Log: 7, Next: 8, Mark: 9},
		{Drop: []int{math.MaxInt}, Add: []Run{{math.MaxInt, math.MaxInt, math.MaxInt}}, Log: math.MaxInt, Next: math.MaxInt, Mark: math.MaxInt64},
		{Drop: make([]int, 63)}, {Drop: make([]int, 64)}, {Add: make([]Run, 63)}, {Add: make([]Run, 64)}, {Drop: make([]int, 64), Add: newest(64), Log: 1, Next: 65, Mark: lastTime + 1},
		{Drop: slices.Repeat([]int{math.MaxInt}, 64), Add: slices.Repeat([]Run{{math.MaxInt, math.MaxInt, math.MaxInt}}, 64)},
	}
	for _, s := range rightStates() {
		l = append(l, making(s), keeping(s))
	}
	return l
}

// wrongEdits is edits that have no bytes.
func wrongEdits() []Edit {
	l := []Edit{{Drop: make([]int, 65)}, {Add: make([]Run, 65)}, {Drop: make([]int, 65), Add: make([]Run, 65)}, {Drop: make([]int, 1000)}, {Add: make([]Run, 128)}, {Add: newest(65)}}
	for _, v := range []int{-1, -64, math.MinInt} {
		l = append(l,
			Edit{Drop: []int{v}}, Edit{Drop: []int{1, v, 2}}, Edit{Drop: append(make([]int, 63), v)}, Edit{Add: []Run{{File: v}}}, Edit{Add: []Run{{Level: v}}}, Edit{Add: []Run{{Count: v}}},
			Edit{Add: append(newest(63), Run{v, 0, 1})}, Edit{Log: v}, Edit{Next: v}, Edit{Mark: int64(v)}, Edit{Log: v, Next: v, Mark: int64(v)}, Edit{Drop: append(make([]int, 64), v)},
		)
	}
	return append(l, Edit{Mark: math.MinInt64})
}

// none tells that bytes are no edit's.
func none(t *testing.T, name string, b []byte) {
	t.Helper()
	if x, e := Read(b); e != api.ErrEdit || len(x.Drop) != 0 || len(x.Add) != 0 || x.Log != 0 || x.Next != 0 || x.Mark != 0 {
		t.Errorf("%s: Read(%v) = %v, %v", name, b, x, e)
	}
}

func TestP13_2Write(t *testing.T) {
	for _, x := range rightEdits() {
		if b, e := Write(x); e != api.OK || !bytes.Equal(b, plainWrite(x)) {
			t.Errorf("Write(%v) = %v, %v", x, b, e)
		}
	}
	for _, x := range wrongEdits() {
		if b, e := Write(x); e != api.ErrEdit || len(b) != 0 {
			t.Errorf("Write(%v) = %v, %v", x, b, e)
		}
	}
}

func TestP13_2Example(t *testing.T) {
	if b, e := Write(making(stateOf(1, 2, 0))); e != api.OK || !bytes.Equal(b, []byte{0, 0, 1, 2, 0}) {
		t.Errorf("Write = %v, %v", b, e)
	}
	x := Edit{Drop: []int{3, 300}, Add: []Run{{9, 1, 4}, {128, 0, 200}}, Log: 2, Next: 129, Mark: 6}
	want := []byte{2, 3, 172, 2, 2, 9, 1, 4, 128, 1, 0, 200, 1, 2, 129, 1, 6}
	if b, e := Write(x); e != api.OK || !bytes.Equal(b, want) {
		t.Errorf("Write = %v, %v", b, e)
	}
}

func TestP13_2Read(t *testing.T) {
	for _, x := range rightEdits() {
		if got, e := Read(plainWrite(x)); e != api.OK || !sameEdit(got, x) {
			t.Errorf("Read of %v = %v, %v", x, got, e)
		}
	}
	for _, x := range wrongEdits() {
		none(t, "a wrong edit", plainWrite(x))
	}
}

func TestP13_2ReadCutOrLonger(t *testing.T) {
	for _, x := range rightEdits() {
		b := plainWrite(x)
		for n := range b {
			none(t, "cut", b[:n])
		}
		for _, y := range []byte{0, 1, 127, 128, 255} {
			none(t, "longer", append(slices.Clone(b), y))
		}
		none(t, "twice", append(slices.Clone(b), b...))
	}
}

// Each byte that is another one makes another edit, or none.
func TestP13_2ReadOtherBytes(t *testing.T) {
	for _, x := range rightEdits() {
		b := plainWrite(x)
		if len(b) > 250 {
			continue
		}
		for i := range b {
			for y := range 256 {
				other := slices.Clone(b)
				other[i] = byte(y)
				got, e := Read(other)
				if e == api.OK && !bytes.Equal(plainWrite(got), other) || e != api.OK && e != api.ErrEdit || e != api.OK && y == int(b[i]) {
					t.Fatalf("Read(%v) = %v, %v", other, got, e)
				}
			}
		}
	}
}

func TestP13_2ReadWrong(t *testing.T) {
	half := binary.AppendUvarint(nil, 1<<63)
	whole := binary.AppendUvarint(nil, math.MaxUint64)
	for name, b := range map[string][]byte{
		"nothing":                       nil,
		"zeros alone, four":             {0, 0, 0, 0},
		"zeros alone, six":              {0, 0, 0, 0, 0, 0},
		"a number that is not short":    {0, 0, 129, 0, 2, 0},
		"a zero that is not short":      {128, 0, 0, 1, 2, 0},
		"a mark that is not short":      {0, 0, 1, 2, 128, 0},
		"a mark that does not end":      {0, 0, 1, 2, 128},
		"a mark beyond 64 digits":       append([]byte{0, 0, 1, 2}, 255, 255, 255, 255, 255, 255, 255, 255, 255, 2),
		"a mark of 64 digits":           append([]byte{0, 0, 1, 2}, half...),
		"the greatest mark":             append([]byte{0, 0, 1, 2}, whole...),
		"a Next of 64 digits":           slices.Concat([]byte{0, 0, 1}, half, []byte{0}),
		"a Log of 64 digits":            slices.Concat([]byte{0, 0}, whole, []byte{2, 0}),
		"a dropped file of 64 digits":   slices.Concat([]byte{1}, half, []byte{0, 1, 2, 0}),
		"a File of 64 digits":           slices.Concat([]byte{0, 1}, half, []byte{0, 1, 1, 2, 0}),
		"a Level of 64 digits":          slices.Concat([]byte{0, 1, 1}, half, []byte{1, 1, 2, 0}),
		"a Count of 64 digits":          slices.Concat([]byte{0, 1, 1, 0}, whole, []byte{1, 2, 0}),
		"very many are dropped":         slices.Concat(whole, []byte{0, 1, 2, 0}),
		"very many are added":           slices.Concat([]byte{0}, whole, []byte{1, 2, 0}),
		"sixty-five are dropped":        slices.Concat([]byte{65}, make([]byte, 65), []byte{0, 1, 2, 0}),
		"sixty-five are added":          slices.Concat([]byte{0, 65}, make([]byte, 65*3), []byte{1, 2, 0}),
		"more are told than dropped":    {1, 0, 1, 2, 0},
		"fewer are told than dropped":   {0, 5, 0, 1, 2, 0},
		"more are told than added":      {0, 1, 1, 2, 0},
		"as many, and one behind":       {0, 0, 1, 2, 0, 0},
		"two runs, one of which is cut": {0, 2, 1, 0, 1, 2, 0, 1, 2, 0},
	} {
		none(t, name, b)
	}
}

// disk is a file system with room.
func disk(t *testing.T, room int) *simfs.FS {
	t.Helper()
	f, e := simfs.New(room)
	if e != api.OK {
		t.Fatalf("New: %v", e)
	}
	return f
}

// frameOf is a frame of data.
func frameOf(t *testing.T, data []byte) []byte {
	t.Helper()
	b, e := crc.Frame(data)
	if e != api.OK {
		t.Fatalf("Frame: %v", e)
	}
	return b
}

// manName is the name of a state's log.
func manName(n int) string {
	return "man-" + strconv.Itoa(n)
}

// pointing is the bytes of a file current.
func pointing(t *testing.T, n uint64) []byte {
	return frameOf(t, binary.AppendUvarint(nil, n))
}

// lay puts a file with bytes, in place of one that is there.
func lay(t *testing.T, f *simfs.FS, name string, b []byte) {
	t.Helper()
	f.Remove(name)
	for _, e := range []api.Errno{f.Create(name), f.Append(name, b), f.Sync(name), f.SyncDir()} {
		if e != api.OK {
			t.Fatalf("%s: %v", name, e)
		}
	}
}

// saved saves a state.
func saved(t *testing.T, f *simfs.FS, n int, s State) {
	t.Helper()
	if e := Save(f, n, s); e != api.OK {
		t.Fatalf("Save(%d, %v): %v", n, s, e)
	}
}

// loads tells whether Load answers this.
func loads(t *testing.T, name string, f *simfs.FS, n int, s State) {
	t.Helper()
	if got, m, e := Load(f); e != api.OK || m != n || !sameState(got, s) {
		t.Errorf("%s: Load = %v, %d, %v, not %v, %d", name, got, m, e, s, n)
	}
}

// fails tells whether Load answers this error.
func fails(t *testing.T, name string, f *simfs.FS, want api.Errno) {
	t.Helper()
	if got, m, e := Load(f); e != want || m != 0 || !isZero(got) {
		t.Errorf("%s: Load = %v, %d, %v, not %v", name, got, m, e, want)
	}
}

// fileNumbers is the numbers that a file may have, at the edges.
func fileNumbers() []int {
	return []int{1, 2, 127, 128, 16383, 16384, lastFile - 1, lastFile}
}

// noNumbers is numbers that no file has.
func noNumbers() []int {
	return []int{0, -1, -128, math.MinInt, lastFile + 1, 2 * lastFile, math.MaxInt}
}

func TestP13_3Save(t *testing.T) {
	for _, s := range rightStates() {
		f := disk(t, 100000)
		var names []string
		for _, n := range fileNumbers() {
			saved(t, f, n, s)
			names = append(names, manName(n))
			if b, e := f.Read(manName(n)); e != api.OK || !bytes.Equal(b, frameOf(t, plainWrite(making(s)))) {
				t.Errorf("%s: %v, %v", manName(n), b, e)
			}
			if b, e := f.Read("current"); e != api.OK || !bytes.Equal(b, pointing(t, uint64(n))) {
				t.Errorf("current: %v, %v", b, e)
			}
			loads(t, "saved", f, n, s)
			f.Crash(0, nil)
			loads(t, "behind a crash", f, n, s)
		}
		slices.Sort(names)
		if want := append([]string{"current"}, names...); !slices.Equal(f.List(), want) {
			t.Errorf("List = %q, not %q", f.List(), want)
		}
	}
}

// untouched tells that a file system has just the files that it had.
func untouched(t *testing.T, name string, f *simfs.FS, names []string, used int) {
	t.Helper()
	if !slices.Equal(f.List(), names) || f.Used() != used {
		t.Errorf("%s: %q, %d bytes, not %q, %d", name, f.List(), f.Used(), names, used)
	}
}

func TestP13_3SaveWrong(t *testing.T) {
	f := disk(t, 10000)
	good := stateOf(2, 9, 4, Run{3, 0, 5})
	saved(t, f, 7, good)
	names, used := f.List(), f.Used()
	refuse := func(name string, f *simfs.FS, n int, s State, want api.Errno) {
		t.Helper()
		if e := Save(f, n, s); e != want {
			t.Errorf("%s: Save(%d, %v) = %v, not %v", name, n, s, e, want)
		}
	}
	for _, n := range noNumbers() {
		refuse("a number", f, n, good, api.ErrArg)
		refuse("a number and nil", nil, n, good, api.ErrArg)
		refuse("a number and a state", f, n, State{}, api.ErrArg)
	}
	for _, s := range wrongStates() {
		refuse("a state", f, 8, s, api.ErrArg)
		refuse("a state and nil", nil, 8, s, api.ErrArg)
		refuse("a state, and the file is there", f, 7, s, api.ErrArg)
	}
	refuse("nil", nil, 8, good, api.ErrNil)
	refuse("made by no call", &simfs.FS{}, 8, good, api.ErrNil)
	refuse("there", f, 7, good, api.ErrExists)
	f.Fail(0, api.ErrIO)
	refuse("a number and a plan", f, 0, good, api.ErrArg)
	refuse("there, and a plan", f, 7, good, api.ErrExists)
	refuse("a plan", f, 8, good, api.ErrIO)
	untouched(t, "refused", f, names, used)
	loads(t, "refused", f, 7, good)
}

// step is what a file system has when the call so many calls behind the first one fails.
type step struct {
	names []string
	sizes []int
}

// stepOf is what a file system has.
func stepOf(f *simfs.FS) step {
	s := step{names: f.List()}
	for _, name := range s.names {
		b, _ := f.Read(name)
		s.sizes = append(s.sizes, len(b))
	}
	return s
}

// behind is a step that is told by names and sizes.
func behind(sizes []int, names ...string) step {
	return step{names: names, sizes: sizes}
}

// The calls of Save are those of the chapter, in its order: each one can fail, and then those ahead of it are done, and no others.
func TestP13_3SaveCallByCall(t *testing.T) {
	for k, want := range []step{
		behind(nil),
		behind([]int{0}, "man-5"),
		behind([]int{13}, "man-5"),
		behind([]int{13}, "man-5"),
		behind([]int{13}, "man-5"),
		behind([]int{0, 13}, "current.new", "man-5"),
		behind([]int{9, 13}, "current.new", "man-5"),
		behind([]int{9, 13}, "current.new", "man-5"),
		behind([]int{9, 13}, "current", "man-5"),
		behind([]int{9, 13}, "current", "man-5"),
	} {
		oneFails(t, k, 9, disk(t, 1000), want)
	}
	for k, want := range []step{
		behind([]int{3}, "current.new"),
		behind([]int{3, 0}, "current.new", "man-5"),
		behind([]int{3, 13}, "current.new", "man-5"),
		behind([]int{3, 13}, "current.new", "man-5"),
		behind([]int{3, 13}, "current.new", "man-5"),
		behind([]int{13}, "man-5"),
		behind([]int{0, 13}, "current.new", "man-5"),
		behind([]int{9, 13}, "current.new", "man-5"),
		behind([]int{9, 13}, "current.new", "man-5"),
		behind([]int{9, 13}, "current", "man-5"),
		behind([]int{9, 13}, "current", "man-5"),
	} {
		f := disk(t, 1000)
		lay(t, f, "current.new", []byte{1, 2, 3})
		oneFails(t, k, 10, f, want)
	}
}

// oneFails tells that the call so many calls behind the first one of a Save fails, if it makes as many, and what then is there.
func oneFails(t *testing.T, k, calls int, f *simfs.FS, want step) {
	t.Helper()
	for _, planned := range []api.Errno{api.ErrIO, api.ErrSpace} {
		g := again(t, f)
		g.Fail(k, planned)
		e := Save(g, 5, stateOf(1, 2, 0))
		if k == calls {
			if e != api.OK || g.SyncDir() != planned {
				t.Errorf("Save makes not %d calls: %v", calls, e)
			}
		} else if e != planned {
			t.Errorf("call %d: %v", k, e)
		}
		if got := stepOf(g); !slices.Equal(got.names, want.names) || !slices.Equal(got.sizes, want.sizes) {
			t.Errorf("call %d: %v, not %v", k, got, want)
		}
	}
}

// again is another file system with the same files, synced.
func again(t *testing.T, f *simfs.FS) *simfs.FS {
	t.Helper()
	g := disk(t, 100000)
	for _, name := range f.List() {
		b, _ := f.Read(name)
		lay(t, g, name, b)
	}
	return g
}

// What is not synced is lost where nothing is kept: so it is told at which call what is synced.
func TestP13_3SaveSyncs(t *testing.T) {
	for k := range 10 {
		f := disk(t, 1000)
		f.Fail(k, api.ErrIO)
		Save(f, 5, stateOf(1, 2, 0))
		f.Crash(0, nil)
		want := behind([]int{13}, "man-5")
		switch {
		case k < 4:
			want = behind(nil)
		case k == 9:
			want = behind([]int{9, 13}, "current", "man-5")
		}
		if got := stepOf(f); !slices.Equal(got.names, want.names) || !slices.Equal(got.sizes, want.sizes) {
			t.Errorf("call %d: %v, not %v", k, got, want)
		}
	}
	for k, size := range []int{0, 0, 0, 13} {
		f := disk(t, 1000)
		f.Fail(k, api.ErrIO)
		Save(f, 5, stateOf(1, 2, 0))
		f.Crash(9, nil)
		if b, e := f.Read("man-5"); len(b) != size || (e == api.OK) != (k > 0) {
			t.Errorf("call %d: %v, %v", k, b, e)
		}
	}
	for k, size := range []int{0, 0, 9, 9} {
		f := disk(t, 1000)
		f.Fail(k+5, api.ErrIO)
		Save(f, 5, stateOf(1, 2, 0))
		f.Crash(9, nil)
		b, e := f.Read("current.new")
		if k == 3 {
			b, e = f.Read("current")
		}
		if len(b) != size || e != api.OK {
			t.Errorf("call %d: %v, %v", k+5, b, e)
		}
	}
}

func TestP13_3SaveNoRoom(t *testing.T) {
	s := stateOf(1, 2, 0)
	for room, want := range map[int]api.Errno{12: api.ErrSpace, 13: api.ErrSpace, 21: api.ErrSpace, 22: api.OK} {
		f := disk(t, room)
		if e := Save(f, 5, s); e != want {
			t.Errorf("room %d: %v", room, e)
		}
	}
	for ahead, want := range map[int]api.Errno{254: api.OK, 255: api.ErrSpace, 256: api.ErrSpace} {
		f := disk(t, 1000)
		for i := range ahead {
			f.Create("x" + strconv.Itoa(i))
		}
		if e := Save(f, 5, s); e != want {
			t.Errorf("%d names: %v", ahead, e)
		}
	}
	f := disk(t, 1000)
	f.Create("current.new")
	for i := range 254 {
		f.Create("x" + strconv.Itoa(i))
	}
	saved(t, f, 5, s) // the one of current.new goes first
	loads(t, "255 names", f, 5, s)
}

func TestP13_3Append(t *testing.T) {
	for _, n := range fileNumbers() {
		f := disk(t, 1000000)
		s := stateOf(2, 9, 4, Run{3, 0, 5})
		saved(t, f, n, s)
		want := frameOf(t, plainWrite(making(s)))
		for _, x := range rightEdits() {
			if e := Append(f, n, x); e != api.OK {
				t.Fatalf("Append(%v): %v", x, e)
			}
			want = append(want, frameOf(t, plainWrite(x))...)
			if b, e := f.Read(manName(n)); e != api.OK || !bytes.Equal(b, want) {
				t.Fatalf("behind %v: %v, %v", x, b, e)
			}
		}
		f.Crash(0, nil)
		if b, e := f.Read(manName(n)); e != api.OK || !bytes.Equal(b, want) {
			t.Errorf("behind a crash: %v, %v", b, e)
		}
		if b, e := f.Read("current"); e != api.OK || !bytes.Equal(b, pointing(t, uint64(n))) {
			t.Errorf("current: %v, %v", b, e)
		}
	}
}

func TestP13_3AppendWrong(t *testing.T) {
	f := disk(t, 60)
	s := stateOf(1, 2, 0)
	saved(t, f, 5, s)
	names, used := f.List(), f.Used()
	refuse := func(name string, f *simfs.FS, n int, x Edit, want api.Errno) {
		t.Helper()
		if e := Append(f, n, x); e != want {
			t.Errorf("%s: Append(%d, %v) = %v, not %v", name, n, x, e, want)
		}
	}
	for _, x := range wrongEdits() {
		refuse("an edit", f, 5, x, api.ErrEdit)
		refuse("an edit and nil", nil, 5, x, api.ErrEdit)
		refuse("an edit, and no file", f, 6, x, api.ErrEdit)
		refuse("an edit and a number", f, 0, x, api.ErrEdit)
	}
	for _, n := range append(noNumbers(), 6, lastFile) {
		refuse("no file", f, n, keeping(s), api.ErrNone)
		refuse("nil", nil, n, keeping(s), api.ErrNil)
	}
	refuse("nil", nil, 5, keeping(s), api.ErrNil)
	refuse("made by no call", &simfs.FS{}, 5, keeping(s), api.ErrNil)
	refuse("no room", f, 5, Edit{Drop: make([]int, 26)}, api.ErrSpace)
	f.Fail(0, api.ErrIO)
	refuse("no room, and a plan", f, 5, Edit{Drop: make([]int, 26)}, api.ErrSpace)
	refuse("a plan", f, 5, keeping(s), api.ErrIO)
	untouched(t, "refused", f, names, used)
	f.Fail(1, api.ErrSpace)
	refuse("Sync fails", f, 5, keeping(s), api.ErrSpace)
	f.Fail(2, api.ErrIO)
	refuse("two calls", f, 5, keeping(s), api.OK)
	if e := f.SyncDir(); e != api.ErrIO {
		t.Errorf("Append makes more than two calls: %v", e)
	}
	loads(t, "refused", f, 5, s)
}

func TestP13_3AppendLong(t *testing.T) {
	f := disk(t, 1<<30)
	s := stateOf(1, 2, 0)
	saved(t, f, 5, s)
	f.Append("man-5", make([]byte, api.MaxFile-13-13))
	if e := Append(f, 5, keeping(s)); e != api.OK {
		t.Errorf("Append = %v", e)
	}
	if e := Append(f, 5, keeping(s)); e != api.ErrLong {
		t.Errorf("Append = %v", e)
	}
}

func TestP13_4LoadNone(t *testing.T) {
	f := disk(t, 1000)
	fails(t, "no files", f, api.ErrNone)
	lay(t, f, "man-1", frameOf(t, plainWrite(making(stateOf(1, 2, 0)))))
	lay(t, f, "current.new", pointing(t, 1))
	fails(t, "no pointer", f, api.ErrNone)
	fails(t, "nil", nil, api.ErrNil)
	fails(t, "made by no call", &simfs.FS{}, api.ErrNil)
}

// What current has must be a frame, nothing behind it, of a number that a file may have, short, nothing behind it, and that file must be there.
func TestP13_4LoadPointer(t *testing.T) {
	s := stateOf(1, 2, 0)
	whole := pointing(t, 5)
	wrong := map[string][]byte{
		"nothing":                  {},
		"a byte":                   {5},
		"the number, in no frame":  {5},
		"a frame of nothing":       frameOf(t, nil),
		"longer":                   append(slices.Clone(whole), 0),
		"two frames":               slices.Concat(whole, whole),
		"a number and a byte":      frameOf(t, []byte{5, 0}),
		"two numbers":              frameOf(t, []byte{5, 5}),
		"a number that is no end":  frameOf(t, []byte{133}),
		"a number not short":       frameOf(t, []byte{133, 0}),
		"a number beyond 64":       frameOf(t, []byte{133, 255, 255, 255, 255, 255, 255, 255, 255, 2}),
		"the number 0":             pointing(t, 0),
		"a number too great":       pointing(t, lastFile+1),
		"a number and 2^64":        pointing(t, math.MaxUint64),
		"a number of 64 digits":    pointing(t, 1<<63+5),
		"a file that is not there": pointing(t, 6),
		"the greatest file's":      pointing(t, lastFile),
		"in order, not short":      frameOf(t, []byte{128, 0, 0, 0, 0, 0, 0, 5}),
		"digits":                   frameOf(t, []byte("5")),
	}
	for n := range whole {
		wrong["cut at "+strconv.Itoa(n)] = whole[:n]
		turned := slices.Clone(whole)
		turned[n] ^= 1
		wrong["turned at "+strconv.Itoa(n)] = turned
	}
	for name, b := range wrong {
		f := disk(t, 10000)
		saved(t, f, 5, s)
		lay(t, f, "current", b)
		fails(t, name, f, api.ErrCorrupt)
	}
	f := disk(t, 10000)
	saved(t, f, 5, s)
	f.Remove("man-5")
	fails(t, "the file is removed", f, api.ErrCorrupt)
	saved(t, f, lastFile, s)
	loads(t, "the greatest number", f, lastFile, s)
}

// logOf is a file system whose pointer names a log of these bytes.
func logOf(t *testing.T, b []byte) *simfs.FS {
	t.Helper()
	f := disk(t, 1<<21)
	lay(t, f, "man-9", b)
	lay(t, f, "current", pointing(t, 9))
	return f
}

func TestP13_4LoadFirstEdit(t *testing.T) {
	first := frameOf(t, plainWrite(making(stateOf(2, 9, 4, Run{3, 0, 5}))))
	wrong := map[string][]byte{
		"nothing":                     nil,
		"an edit in no frame":         plainWrite(making(stateOf(1, 2, 0))),
		"a frame of nothing":          frameOf(t, nil),
		"no edit":                     frameOf(t, []byte{0, 0, 1, 2}),
		"no edit, then one":           append(frameOf(t, []byte{0, 0, 1, 2, 0, 0}), first...),
		"bytes, then one":             append([]byte{0}, first...),
		"it drops what is not there":  frameOf(t, plainWrite(Edit{Drop: []int{3}, Log: 1, Next: 2})),
		"it can't be applied":         frameOf(t, plainWrite(Edit{})),
		"a lesser Log":                frameOf(t, plainWrite(Edit{Log: 0, Next: 2})),
		"a lesser Next":               frameOf(t, plainWrite(Edit{Log: 1, Next: 1})),
		"then one that could be":      append(frameOf(t, plainWrite(Edit{Log: 2, Next: 2})), first...),
		"a run beyond Next":           frameOf(t, plainWrite(making(stateOf(1, 3, 0, Run{3, 0, 5})))),
		"a mark beyond":               frameOf(t, plainWrite(Edit{Log: 1, Next: 2, Mark: lastTime + 1})),
		"sixty-five runs":             frameOf(t, plainWrite(making(stateOf(1, 100, 0, newest(65)...)))),
		"two runs of a level above 0": frameOf(t, plainWrite(making(stateOf(1, 9, 0, Run{3, 1, 5}, Run{2, 1, 5})))),
	}
	for n := range first {
		wrong["cut at "+strconv.Itoa(n)] = first[:n]
		turned := slices.Clone(first)
		turned[n] ^= 64
		wrong["turned at "+strconv.Itoa(n)] = turned
	}
	for name, b := range wrong {
		fails(t, name, logOf(t, b), api.ErrCorrupt)
	}
	// Runs that are added in no order are in order in the state.
	shuffled := frameOf(t, plainWrite(Edit{Add: []Run{{3, 1, 5}, {2, 0, 5}, {4, 0, 5}}, Log: 1, Next: 5}))
	loads(t, "shuffled", logOf(t, shuffled), 9, stateOf(1, 5, 0, Run{4, 0, 5}, Run{2, 0, 5}, Run{3, 1, 5}))
}

// editRow is a state, and edits that can be applied one behind the other.
func editRow() (State, []Edit) {
	return stateOf(2, 9, 4, Run{3, 0, 5}), []Edit{
		{Drop: []int{3}, Add: []Run{{9, 1, 4}}, Log: 2, Next: 10, Mark: 6},
		{Add: []Run{{10, 0, 7}}, Log: 11, Next: 12, Mark: 6},
		{Add: []Run{{12, 0, 8}}, Log: 13, Next: 14, Mark: 60},
		{Drop: []int{9, 10, 12}, Add: []Run{{14, 1, 19}}, Log: 13, Next: 15, Mark: 600},
		{Drop: []int{14}, Log: 13, Next: 300, Mark: 600},
	}
}

func TestP13_4LoadEdits(t *testing.T) {
	s, edits := editRow()
	f := disk(t, 10000)
	saved(t, f, 9, s)
	for _, x := range edits {
		if e := Append(f, 9, x); e != api.OK {
			t.Fatalf("Append: %v", e)
		}
		s = applied(t, s, x)
		loads(t, "so far", f, 9, s)
	}
	if len(s.Runs) != 0 || s.Next != 300 || s.Mark != 600 {
		t.Errorf("the last state: %v", s)
	}
}

// What stands behind the first frame that is none, or whose edit is none or can't be applied, is of no matter.
func TestP13_4LoadUpTo(t *testing.T) {
	s, edits := editRow()
	log := frameOf(t, plainWrite(making(s)))
	for i := range len(edits) + 1 {
		last := frameOf(t, plainWrite(edits[len(edits)-1]))
		turned := frameOf(t, plainWrite(keeping(s)))
		turned[5] ^= 1
		beyond := keeping(s)
		beyond.Next = lastFile + 1
		lesser := keeping(s)
		lesser.Mark--
		for name, b := range map[string][]byte{
			"nothing":                 nil,
			"a byte":                  {0},
			"no frame":                {255, 255, 255, 255, 1, 2, 3},
			"a frame that is cut":     last[:len(last)-1],
			"a frame that is turned":  turned,
			"no edit":                 frameOf(t, []byte{0, 0, 1, 2, 0, 0}),
			"a frame of nothing":      frameOf(t, nil),
			"an edit of what is gone": frameOf(t, plainWrite(Edit{Drop: []int{77}, Log: s.Log, Next: s.Next, Mark: s.Mark})),
			"an edit beyond":          frameOf(t, plainWrite(beyond)),
			"an edit that is less":    frameOf(t, plainWrite(lesser)),
		} {
			loads(t, name, logOf(t, append(slices.Clone(log), b...)), 9, s)
			if b != nil {
				more := frameOf(t, plainWrite(Edit{Log: s.Log, Next: lastFile, Mark: s.Mark}))
				loads(t, name+", and more", logOf(t, slices.Concat(log, b, more)), 9, s)
			}
		}
		if i < len(edits) {
			log = append(log, frameOf(t, plainWrite(edits[i]))...)
			s = applied(t, s, edits[i])
		}
	}
}

// A log that is cut tells the edits that are whole.
func TestP13_4LoadCut(t *testing.T) {
	s, edits := editRow()
	log := frameOf(t, plainWrite(making(s)))
	ends, states := []int{len(log)}, []State{s}
	for _, x := range edits {
		log = append(log, frameOf(t, plainWrite(x))...)
		s = applied(t, s, x)
		ends, states = append(ends, len(log)), append(states, s)
	}
	for n := ends[0]; n <= len(log); n++ {
		at := 0
		for at+1 < len(ends) && ends[at+1] <= n {
			at++
		}
		loads(t, "cut at "+strconv.Itoa(n), logOf(t, log[:n]), 9, states[at])
	}
}

// The longest log that there can be, of the most runs, is read to its end.
func TestP13_4LoadLong(t *testing.T) {
	s := stateOf(1, 65, 0, newest(64)...)
	log := frameOf(t, plainWrite(making(s)))
	for len(log)+13 <= api.MaxFile {
		log = append(log, frameOf(t, []byte{0, 0, 1, 65, byte(len(log) >> 14)})...)
	}
	s.Mark = int64(log[len(log)-5])
	loads(t, "long", logOf(t, log), 9, s)
}

func TestP13_5ThereAndBack(t *testing.T) {
	for _, x := range rightEdits() {
		b, e := Write(x)
		if e != api.OK {
			t.Fatalf("Write(%v): %v", x, e)
		}
		if got, e := Read(b); e != api.OK || !sameEdit(got, x) {
			t.Errorf("%v comes back as %v, %v", x, got, e)
		}
	}
	x := uint32(21)
	for range 50000 {
		var s State
		var y Edit
		s, x = madeState(x)
		y, x = madeEdit(s, x)
		b, e := Write(y)
		if e == api.ErrEdit && y.Mark < 0 {
			continue
		}
		if got, f := Read(b); e != api.OK || f != api.OK || !sameEdit(got, y) {
			t.Fatalf("%v comes back as %v, %v, %v", y, got, e, f)
		}
	}
}

// is tells whether Load answers a state and its number; the number 0 is for no pointer.
func is(f *simfs.FS, n int, s State) bool {
	got, m, e := Load(f)
	if n == 0 {
		return e == api.ErrNone
	}
	return e == api.OK && m == n && sameState(got, s)
}

// beginnings is file systems ahead of a Save under number 5, each with the number and the state that it then tells.
func beginnings(t *testing.T) map[string]func() (*simfs.FS, int, State) {
	s, edits := editRow()
	began := func() *simfs.FS {
		f := disk(t, 100000)
		saved(t, f, 2, s)
		return f
	}
	return map[string]func() (*simfs.FS, int, State){
		"nothing": func() (*simfs.FS, int, State) { return disk(t, 100000), 0, State{} },
		"a state": func() (*simfs.FS, int, State) { return began(), 2, s },
		"an edited state": func() (*simfs.FS, int, State) {
			f := began()
			Append(f, 2, edits[0])
			return f, 2, applied(t, s, edits[0])
		},
		"what failed": func() (*simfs.FS, int, State) {
			f := began()
			f.Fail(7, api.ErrIO)
			Save(f, 3, stateOf(1, 4, 1))
			return f, 2, s
		},
		"what failed, and no state": func() (*simfs.FS, int, State) {
			f := disk(t, 100000)
			f.Fail(6, api.ErrIO)
			Save(f, 3, stateOf(1, 4, 1))
			return f, 0, State{}
		},
		"what a crash left": func() (*simfs.FS, int, State) {
			f := began()
			f.Fail(6, api.ErrIO)
			Save(f, 3, stateOf(1, 4, 1))
			f.Crash(9, []int{9, 5, 9, 9})
			return f, 2, s
		},
		"files that go": func() (*simfs.FS, int, State) {
			f := began()
			lay(t, f, "run-1", []byte{1})
			f.Remove("run-1")
			return f, 2, s
		},
	}
}

// keptOf is how much a crash keeps of each file, in all the ways that are of matter for few files.
func keptOf(k int) []int {
	return []int{k % 4 * 3, k / 4 % 4 * 5, k / 16 % 4 * 7, k / 64 % 4 * 9, 30}
}

func TestP13_6CrashWithinSave(t *testing.T) {
	after := stateOf(30, 90, 700, Run{80, 0, 9}, Run{70, 0, 9}, Run{60, 2, 300})
	for name, begin := range beginnings(t) {
		for call := range 13 {
			for ops := -1; ops < 8; ops++ {
				for k := range 256 {
					f, n, ahead := begin()
					f.Fail(call, api.ErrIO)
					e := Save(f, 5, after)
					f.Crash(ops, keptOf(k))
					switch {
					case is(f, 5, after):
					case e == api.OK || !is(f, n, ahead):
						got, m, g := Load(f)
						t.Fatalf("%s, call %d, Crash(%d, %v): %v, then %v, %d, %v", name, call, ops, keptOf(k), e, got, m, g)
					}
				}
			}
		}
	}
}

// Whatever is kept of the one file that is being written.
func TestP13_6CrashKeepsAny(t *testing.T) {
	s, _ := editRow()
	after := stateOf(30, 90, 700, Run{80, 0, 9}, Run{70, 0, 9}, Run{60, 2, 300})
	for call := range 10 {
		for ops := range 5 {
			for keep := range 45 {
				f := disk(t, 10000)
				saved(t, f, 2, s)
				f.Fail(call, api.ErrSpace)
				Save(f, 5, after)
				f.Crash(ops, []int{keep, keep, keep, keep})
				if !is(f, 2, s) && !is(f, 5, after) {
					t.Fatalf("call %d, %d, %d", call, ops, keep)
				}
				f.Crash(ops, []int{keep + 1, keep + 1})
				saved(t, f, 6, after)
				f.Crash(0, nil)
				loads(t, "saved behind a crash", f, 6, after)
			}
		}
	}
}

func TestP13_7CrashWithinAppend(t *testing.T) {
	ahead, edits := editRow()
	for i, x := range edits {
		edited := applied(t, ahead, x)
		for call := range 3 {
			for keep := -1; keep < 40; keep++ {
				f := disk(t, 10000)
				saved(t, f, 4, stateOf(2, 9, 4, Run{3, 0, 5}))
				for _, y := range edits[:i] {
					Append(f, 4, y)
				}
				f.Fail(call, api.ErrIO)
				e := Append(f, 4, x)
				if (e == api.OK) != (call == 2) {
					t.Fatalf("Append: %v", e)
				}
				f.Crash(0, []int{0, keep})
				if !is(f, 4, edited) && (e == api.OK || !is(f, 4, ahead)) {
					got, n, g := Load(f)
					t.Fatalf("edit %d, call %d, keep %d: %v, %d, %v", i, call, keep, got, n, g)
				}
				if call == 1 && is(f, 4, edited) != (keep >= 8+len(plainWrite(x))) {
					t.Fatalf("edit %d, keep %d", i, keep)
				}
			}
		}
		ahead = edited
	}
}

// Saves and edits, failures and crashes in a row: it is always what was sure, or what came behind that.
func TestP13_7CrashAfterCrash(t *testing.T) {
	x := uint32(77)
	for range 3000 {
		f := disk(t, 3000)
		n, sure := 0, State{}
		next := 1
		for range 12 {
			x = some(x)
			if x>>16%3 == 0 {
				f.Fail(int(x>>18%9), api.ErrIO)
			}
			s := stateOf(1, 2, 0)
			if n != 0 {
				s = sure
			}
			edit := Edit{Add: []Run{{s.Next, 0, 1 + int(x>>20%9)}}, Log: s.Log, Next: s.Next + 1, Mark: s.Mark + int64(x>>24%5)}
			if len(s.Runs) > 2 {
				edit.Drop = []int{s.Runs[1].File, s.Runs[0].File}
			}
			after := applied(t, s, edit)
			m, e := n, api.OK
			if n == 0 || x>>12%2 == 0 {
				m = next
				next++
				e = Save(f, m, after)
			} else {
				e = Append(f, n, edit)
			}
			crashed := e != api.OK || x>>8%4 == 0
			if crashed {
				x = some(x)
				f.Crash(int(x>>16%7), []int{int(x >> 18 % 40), int(x >> 20 % 40), int(x >> 22 % 40), int(x >> 24 % 40), int(x >> 25 % 40), int(x >> 26 % 40)})
			}
			switch {
			case is(f, m, after):
				n, sure = m, after
			case e == api.OK || !is(f, n, sure):
				got, k, g := Load(f)
				t.Fatalf("Load = %v, %d, %v, neither %v, %d nor %v, %d", got, k, g, sure, n, after, m)
			}
			if crashed && n != 0 {
				// Behind a crash a log may have a piece of a frame: what goes on, goes on in a new one.
				saved(t, f, next, sure)
				n = next
				next++
			}
		}
	}
}

func TestP1NewMemory(t *testing.T) {
	room := append(make([]Run, 0, 8), ladder()...)
	s := stateOf(2, 20, 5, room...)
	drop, add := append(make([]int, 0, 4), 7, 4), append(make([]Run, 0, 4), Run{12, 0, 1}, Run{11, 1, 1})
	x := Edit{Drop: drop, Add: add, Log: 2, Next: 20, Mark: 5}
	one, _ := Apply(s, x)
	two, _ := Apply(s, x)
	kept, _ := Apply(s, keeping(s))
	one.Runs[0].Count, kept.Runs[0].Count = 99, 99
	_ = append(one.Runs, Run{99, 99, 99})
	if !slices.Equal(s.Runs, ladder()) || !slices.Equal(drop, []int{7, 4}) || !slices.Equal(add, []Run{{12, 0, 1}, {11, 1, 1}}) {
		t.Errorf("what was handed in has changed: %v, %v, %v", s, drop, add)
	}
	if want, _ := plainApply(s, x); !sameState(two, want) {
		t.Errorf("two answers share memory: %v", two)
	}
	b, _ := Write(x)
	c, _ := Write(x)
	clear(b)
	if !bytes.Equal(c, plainWrite(x)) {
		t.Errorf("two answers share memory: %v", c)
	}
	y, _ := Read(c)
	z, _ := Read(c)
	clear(c)
	y.Drop[0], y.Add[0].Count = 99, 99
	_ = append(y.Drop, 99)
	if !sameEdit(z, x) {
		t.Errorf("two answers share memory: %v", z)
	}
	f := disk(t, 1000)
	saved(t, f, 1, s)
	if e := Append(f, 1, x); e != api.OK {
		t.Fatalf("Append: %v", e)
	}
	s.Runs[0].Count, drop[0], add[0].Count = 77, 77, 77
	got, _, _ := Load(f)
	got.Runs[0].Count = 55
	loads(t, "what is kept", f, 1, two)
}

// What lies behind a list's length is neither read nor written.
func TestP1BehindLength(t *testing.T) {
	runs := append(ladder(), Run{-1, -1, -1})
	s := stateOf(2, 20, 5, runs[:4]...)
	drop := []int{7, -7}
	add := []Run{{12, 1, 1}, {-2, -2, -2}}
	x := Edit{Drop: drop[:1], Add: add[:1], Log: 2, Next: 20, Mark: 5}
	if !Right(s) {
		t.Errorf("Right reads behind a list's length")
	}
	applied(t, s, x)
	if b, e := Write(x); e != api.OK || !bytes.Equal(b, plainWrite(x)) {
		t.Errorf("Write = %v, %v", b, e)
	}
	long := append(plainWrite(x), 1, 2, 3)
	if y, e := Read(long[:len(long)-3]); e != api.OK || !sameEdit(y, x) {
		t.Errorf("Read = %v, %v", y, e)
	}
	if runs[4] != (Run{-1, -1, -1}) || drop[1] != -7 || add[1] != (Run{-2, -2, -2}) || !bytes.Equal(long[len(long)-3:], []byte{1, 2, 3}) {
		t.Errorf("what lies behind was written: %v, %v, %v, %v", runs, drop, add, long)
	}
}

func FuzzRead(f *testing.F) {
	for _, x := range append(rightEdits(), wrongEdits()...) {
		f.Add(plainWrite(x))
	}
	f.Fuzz(func(t *testing.T, b []byte) {
		x, e := Read(b)
		if e != api.OK {
			none(t, "fuzzed", b)
			return
		}
		if again, e := Write(x); e != api.OK || !bytes.Equal(again, b) || !bytes.Equal(plainWrite(x), b) {
			t.Errorf("Read(%v) = %v", b, x)
		}
	})
}

func FuzzLoad(f *testing.F) {
	s, edits := editRow()
	first, _ := crc.Frame(plainWrite(making(s)))
	second, _ := crc.Frame(plainWrite(edits[0]))
	f.Add([]byte{8, 0, 0, 0}, first)
	f.Add([]byte{}, append(first, second...))
	f.Fuzz(func(t *testing.T, pointer, log []byte) {
		files := disk(t, 1<<21)
		lay(t, files, "man-9", log)
		lay(t, files, "current", pointer)
		s, n, e := Load(files)
		if e == api.OK && (!Right(s) || n != 9 || !bytes.Equal(pointer, pointing(t, 9))) || e != api.OK && (e != api.ErrCorrupt || n != 0 || !isZero(s)) {
			t.Errorf("Load = %v, %d, %v", s, n, e)
		}
		lay(t, files, "current", pointing(t, 9))
		s, n, e = Load(files)
		if e == api.OK && (!Right(s) || n != 9) || e != api.OK && (e != api.ErrCorrupt || n != 0 || !isZero(s)) {
			t.Errorf("Load = %v, %d, %v", s, n, e)
		}
	})
}
