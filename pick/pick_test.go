package pick

import (
	"math"
	"slices"
	"testing"

	"rickyard/api"
)

// some is the next number of a row that is made by a rule.
func some(x uint32) uint32 {
	return x*1664525 + 1013904223
}

// run is a run that is not stale.
func run(file, level, count int) Run {
	return Run{File: file, Level: level, Count: count}
}

// old is a run that is stale.
func old(file, level, count int) Run {
	return Run{File: file, Level: level, Count: count, Stale: true}
}

// low is so many runs of level 0, with the files from 1 on.
func low(n int) []Run {
	var l []Run
	for i := range n {
		l = append(l, run(i+1, 0, 1))
	}
	return l
}

// trees is runs that are a tree.
func trees() [][]Run {
	return [][]Run{
		nil, {}, {run(1, 0, 1)}, {run(math.MaxInt, 3, math.MaxInt)}, {run(1, 1, 64)}, {run(1, 1, 65)}, {run(1, 2, 256)}, {run(1, 2, 257)}, {run(1, 3, 4096)},
		{run(3, 0, 1), run(1, 0, 2), run(2, 1, 3)}, {run(2, 3, 1), run(9, 0, 1), run(5, 1, 1), run(1, 2, 1)}, {old(5, 0, 1)}, {old(5, 3, 1), old(1, 2, 1)},
		{run(1, 1, 65), run(2, 2, 300), old(3, 3, 9)}, {old(1, 0, 7), run(2, 2, 257)}, {run(7, 0, math.MaxInt), run(8, 0, math.MaxInt), run(9, 1, math.MaxInt)},
		low(2), low(63), low(64), append(low(61), run(62, 1, 1), run(63, 2, 1), run(64, 3, 1)), {old(4, 0, 1), old(2, 0, 1), old(3, 1, 1)},
	}
}

// noTrees is runs that are no tree.
func noTrees() [][]Run {
	return [][]Run{
		low(65), low(66), low(500), append(low(62), run(63, 1, 1), run(64, 2, 1), run(65, 3, 1)),
		{{}}, {run(0, 0, 1)}, {run(-1, 0, 1)}, {run(math.MinInt, 0, 1)}, {run(1, -1, 1)}, {run(1, 4, 1)}, {run(1, math.MaxInt, 1)}, {run(1, math.MinInt, 1)},
		{run(1, 0, 0)}, {run(1, 0, -1)}, {run(1, 0, math.MinInt)}, {run(1, 0, 1), run(1, 0, 1)}, {run(1, 0, 1), run(1, 1, 1)}, {run(5, 2, 1), run(6, 3, 1), run(5, 0, 1)},
		{run(1, 1, 1), run(2, 1, 1)}, {run(1, 2, 1), run(2, 2, 1)}, {run(1, 3, 1), run(2, 3, 1)}, {run(1, 1, 1), run(2, 0, 1), run(3, 1, 1)},
		{run(1, 0, 1), run(2, 0, 1), run(0, 1, 1)}, {run(1, 0, 1), run(2, 0, 0)}, {run(1, 1, 65), run(2, 5, 1)}, {old(1, 0, 1), old(1, 1, 1)},
	}
}

// noLevels is numbers that are no levels.
func noLevels() []int {
	return []int{-1, -2, 4, 5, 62, 64, math.MaxInt, math.MinInt}
}

// plainRight tells whether runs are a tree, by counting.
func plainRight(l []Run) bool {
	files, levels := map[int]int{}, map[int]int{}
	good := len(l) <= 64
	for _, r := range l {
		files[r.File]++
		levels[r.Level]++
		good = good && r.File > 0 && r.Level >= 0 && r.Level <= 3 && r.Count > 0 && files[r.File] == 1
	}
	return good && levels[1] <= 1 && levels[2] <= 1 && levels[3] <= 1
}

// plainFull tells whether a level of a tree is full.
func plainFull(l []Run, level int) bool {
	count := 0
	for _, r := range l {
		switch {
		case r.Level != level:
		case level == 0:
			count++
		case level == 1 && r.Count > 64, level == 2 && r.Count > 256:
			return true
		}
	}
	return count > 1
}

// plainOffer is what is offered of a tree: first of all levels that are full is asked, then for what is stale.
func plainOffer(l []Run) (Task, bool) {
	byFile := slices.SortedFunc(slices.Values(l), func(a, b Run) int { return a.File - b.File })
	for level := 0; level < 3; level++ {
		if !plainFull(l, level) {
			continue
		}
		t := Task{Level: level + 1}
		for _, r := range byFile {
			if r.Level == level || r.Level == level+1 {
				t.Files = append(t.Files, r.File)
			}
		}
		return t, true
	}
	for level := 0; level < 4; level++ {
		for _, r := range byFile {
			if r.Level == level && r.Stale {
				return Task{Files: []int{r.File}, Level: level}, true
			}
		}
	}
	return Task{}, false
}

func sameTask(a, b Task) bool {
	return a.Level == b.Level && slices.Equal(a.Files, b.Files)
}

// offers tells that what is offered is what is to be, and answers it.
func offers(t *testing.T, l []Run) (Task, bool) {
	t.Helper()
	want, ok := plainOffer(l)
	got, some, e := Offer(l)
	if e != api.OK || some != ok || !sameTask(got, want) {
		t.Fatalf("Offer(%v) = %v, %v, %v, not %v, %v", l, got, some, e, want, ok)
	}
	return got, some
}

// madeTree is a tree that is made by a rule.
func madeTree(x uint32) ([]Run, uint32) {
	var l []Run
	x = some(x)
	for i := range int(x>>16) % 4 {
		x = some(x)
		l = append(l, Run{File: 10*i + 1 + int(x>>20)%5, Count: 1 + int(x>>10)%300, Stale: x>>30 == 0})
	}
	for level := 1; level < 4; level++ {
		x = some(x)
		if x>>31 == 0 {
			l = append(l, Run{File: 10*level + 6 + int(x>>20)%4, Level: level, Count: 1 + int(x>>10)%400, Stale: x>>29%2 == 0})
		}
	}
	for i := len(l) - 1; i > 0; i-- {
		x = some(x)
		j := int(x>>16) % (i + 1)
		l[i], l[j] = l[j], l[i]
	}
	return l, x
}

// countsOf is the Counts of some files together; only for those that are small.
func countsOf(l []Run, files []int) int {
	sum := 0
	for _, r := range l {
		if slices.Contains(files, r.File) {
			sum += r.Count
		}
	}
	return sum
}

func TestP16_1Right(t *testing.T) {
	for _, l := range trees() {
		if !Right(l) {
			t.Errorf("%v is no tree", l)
		}
	}
	for _, l := range noTrees() {
		if Right(l) {
			t.Errorf("%v is a tree", l)
		}
	}
}

// Files, levels and counts around the edges, in all ways, of up to three runs.
func TestP16_1RightAll(t *testing.T) {
	var all []Run
	for file := 0; file <= 2; file++ {
		for level := -1; level <= 4; level++ {
			for count := 0; count <= 1; count++ {
				all = append(all, run(file, level, count))
			}
		}
	}
	hold := func(l ...Run) {
		if Right(l) != plainRight(l) {
			t.Fatalf("Right(%v) = %v", l, Right(l))
		}
	}
	for _, a := range all {
		hold(a)
		for _, b := range all {
			hold(a, b)
			for _, c := range all {
				c.File++
				hold(a, b, c)
			}
		}
	}
}

func TestP16_1Full(t *testing.T) {
	for _, c := range []struct {
		l     []Run
		level int
		want  bool
	}{
		{nil, 0, false}, {low(1), 0, false}, {low(2), 0, true}, {low(64), 0, true}, {[]Run{run(1, 0, math.MaxInt)}, 0, false}, {[]Run{run(1, 0, 1), run(2, 1, 1)}, 0, false},
		{[]Run{run(1, 1, 1)}, 1, false}, {[]Run{run(1, 1, 64)}, 1, false}, {[]Run{run(1, 1, 65)}, 1, true}, {[]Run{run(1, 1, math.MaxInt)}, 1, true},
		{[]Run{run(1, 2, 65)}, 2, false}, {[]Run{run(1, 2, 256)}, 2, false}, {[]Run{run(1, 2, 257)}, 2, true}, {[]Run{run(1, 2, 257)}, 1, false},
		{[]Run{run(1, 3, 1025)}, 3, false}, {[]Run{run(1, 3, math.MaxInt)}, 3, false}, {[]Run{run(1, 1, 65), run(2, 0, 65)}, 0, false}, {[]Run{run(2, 0, 65)}, 1, false}, {nil, 1, false}, {nil, 2, false}, {nil, 3, false},
	} {
		if got := Full(c.l, c.level); got != c.want {
			t.Errorf("Full(%v, %d) = %v", c.l, c.level, got)
		}
	}
	for _, l := range noTrees() {
		for level := range 4 {
			if Full(l, level) {
				t.Errorf("Full(%v, %d), which is no tree", l, level)
			}
		}
	}
	for _, l := range trees() {
		for _, level := range noLevels() {
			if Full(l, level) {
				t.Errorf("Full(%v, %d), which is no level", l, level)
			}
		}
	}
}

func TestP16_1OfferByHand(t *testing.T) {
	for _, c := range []struct {
		l    []Run
		want Task
	}{
		{[]Run{run(3, 0, 1), run(1, 0, 2), run(2, 1, 3)}, Task{[]int{1, 2, 3}, 1}},
		{[]Run{old(5, 0, 1)}, Task{[]int{5}, 0}},
		{[]Run{run(9, 0, 1), run(4, 0, 1)}, Task{[]int{4, 9}, 1}},
		{[]Run{old(9, 0, 1), run(4, 0, 1), run(7, 2, 1000), old(1, 3, 1)}, Task{[]int{4, 9}, 1}},
		{[]Run{run(9, 1, 65)}, Task{[]int{9}, 2}},
		{[]Run{run(9, 1, 65), run(3, 2, 500), run(1, 0, 100)}, Task{[]int{3, 9}, 2}},
		{[]Run{run(9, 1, 64), run(3, 2, 257), run(4, 3, 4000)}, Task{[]int{3, 4}, 3}},
		{[]Run{old(1, 0, 1), run(3, 2, 257)}, Task{[]int{3}, 3}},
		{[]Run{old(1, 0, 1), old(2, 1, 64), old(3, 2, 257)}, Task{[]int{3}, 3}},
		{[]Run{old(4, 3, 4000), old(3, 2, 1)}, Task{[]int{3}, 2}},
		{[]Run{old(4, 3, 4000), run(3, 2, 1), run(2, 0, 1)}, Task{[]int{4}, 3}},
		{[]Run{old(4, 1, 64), run(3, 2, 256), old(2, 0, 1)}, Task{[]int{2}, 0}},
		{[]Run{old(4, 1, 64), old(3, 2, 256), run(2, 0, 1)}, Task{[]int{4}, 1}},
	} {
		if got, ok := offers(t, c.l); !ok || !sameTask(got, c.want) {
			t.Errorf("Offer(%v) = %v, %v, not %v", c.l, got, ok, c.want)
		}
	}
	for _, l := range [][]Run{nil, {}, low(1), {run(1, 0, 4096), run(2, 1, 64), run(3, 2, 256), run(4, 3, 4096)}, {run(4, 3, math.MaxInt)}} {
		if got, ok := offers(t, l); ok {
			t.Errorf("Offer(%v) = %v", l, got)
		}
	}
}

func TestP16_1Offer(t *testing.T) {
	for _, l := range trees() {
		offers(t, l)
	}
	x := uint32(3)
	for range 50000 {
		var l []Run
		l, x = madeTree(x)
		for level := range 4 {
			if Full(l, level) != plainFull(l, level) {
				t.Fatalf("Full(%v, %d) = %v", l, level, Full(l, level))
			}
		}
		offers(t, l)
	}
	for _, l := range noTrees() {
		if got, ok, e := Offer(l); e != api.ErrArg || ok || len(got.Files) != 0 || got.Level != 0 {
			t.Errorf("Offer(%v) = %v, %v, %v", l, got, ok, e)
		}
	}
}

// comes tells that what comes of a task is what is to be.
func comes(t *testing.T, l []Run, x Task, file, count int, want []Run) {
	t.Helper()
	if got, e := After(l, x, file, count); e != api.OK || !slices.Equal(got, want) {
		t.Errorf("After(%v, %v, %d, %d) = %v, %v, not %v", l, x, file, count, got, e, want)
	}
}

// refused tells that a task can't be done.
func refused(t *testing.T, l []Run, x Task, file, count int) {
	t.Helper()
	if got, e := After(l, x, file, count); e != api.ErrArg || len(got) != 0 {
		t.Errorf("After(%v, %v, %d, %d) = %v, %v", l, x, file, count, got, e)
	}
}

func TestP16_2After(t *testing.T) {
	l := []Run{old(3, 0, 1), old(1, 0, 2), old(7, 3, 9), run(2, 1, 3)}
	comes(t, l, Task{[]int{1, 2, 3}, 1}, 9, 6, []Run{old(7, 3, 9), run(9, 1, 6)})
	comes(t, l, Task{[]int{3, 1, 2}, 1}, 9, 1, []Run{old(7, 3, 9), run(9, 1, 1)})
	comes(t, l, Task{[]int{1, 2, 3}, 1}, 9, 0, []Run{old(7, 3, 9)})
	comes(t, l, Task{[]int{1}, 0}, 1, 2, []Run{old(3, 0, 1), old(7, 3, 9), run(2, 1, 3), run(1, 0, 2)})
	comes(t, l, Task{[]int{1}, 0}, 1, 0, []Run{old(3, 0, 1), old(7, 3, 9), run(2, 1, 3)})
	comes(t, l, Task{[]int{3}, 2}, math.MaxInt, 1, []Run{old(1, 0, 2), old(7, 3, 9), run(2, 1, 3), run(math.MaxInt, 2, 1)})
	comes(t, l, Task{[]int{2, 7}, 0}, 7, 12, []Run{old(3, 0, 1), old(1, 0, 2), run(7, 0, 12)})
	comes(t, l, Task{[]int{1, 2, 3, 7}, 2}, 1, 0, nil)
	comes(t, l, Task{}, 9, 0, l)
	comes(t, nil, Task{}, 1, 0, nil)
	comes(t, nil, Task{Level: 3}, math.MaxInt, 0, nil)
	comes(t, low(64), Task{[]int{64}, 0}, 65, 1, append(low(63), run(65, 0, 1)))
	comes(t, []Run{run(1, 1, 5)}, Task{[]int{1}, 1}, 1, 5, []Run{run(1, 1, 5)})
}

// Counts whose sum leaves its type are not put together.
func TestP16_2GreatCounts(t *testing.T) {
	l := []Run{run(1, 0, math.MaxInt), run(2, 0, math.MaxInt), run(3, 0, 1), run(4, 1, math.MaxInt)}
	comes(t, l, Task{[]int{1, 2, 3, 4}, 1}, 9, math.MaxInt, []Run{run(9, 1, math.MaxInt)})
	comes(t, l, Task{[]int{1, 2, 3, 4}, 1}, 9, 1, []Run{run(9, 1, 1)})
	comes(t, l, Task{[]int{1, 3}, 0}, 9, math.MaxInt, []Run{run(2, 0, math.MaxInt), run(4, 1, math.MaxInt), run(9, 0, math.MaxInt)})
	comes(t, l, Task{[]int{1}, 0}, 9, math.MaxInt, []Run{run(2, 0, math.MaxInt), run(3, 0, 1), run(4, 1, math.MaxInt), run(9, 0, math.MaxInt)})
	refused(t, l, Task{[]int{3}, 0}, 9, math.MaxInt)
	refused(t, l, Task{[]int{3}, 0}, 9, 2)
	refused(t, l, Task{[]int{1, 2}, 0}, 9, math.MinInt)
}

func TestP16_2Wrong(t *testing.T) {
	l := []Run{run(3, 0, 1), run(1, 0, 2), run(7, 3, 9), run(2, 1, 3)}
	all := Task{[]int{1, 2, 3}, 1}
	for _, files := range [][]int{{9}, {0}, {-1}, {1, 2, 9}, {9, 1}, {1, 1}, {1, 2, 3, 1}, {1, 2, 2}, {math.MaxInt}, {math.MinInt}, make([]int, 1000), {1, 2, 3, 7, 7}} {
		for _, count := range []int{0, 1} {
			refused(t, l, Task{files, 1}, 9, count)
		}
	}
	for _, file := range []int{0, -1, math.MinInt, 7} {
		for _, count := range []int{0, 1, 6} {
			refused(t, l, all, file, count)
		}
	}
	for _, count := range []int{-1, math.MinInt, 7, 15, math.MaxInt} {
		refused(t, l, all, 9, count)
	}
	for _, level := range noLevels() {
		for _, count := range []int{0, 1} {
			refused(t, l, Task{[]int{1, 2, 3}, level}, 9, count)
		}
	}
	refused(t, l, Task{}, 9, 1)
	refused(t, l, Task{}, 3, 0)
	refused(t, nil, Task{}, 1, 1)
	refused(t, nil, Task{}, 0, 0)
	refused(t, nil, Task{Files: []int{1}}, 1, 0)
	refused(t, l, Task{[]int{1}, 1}, 9, 1)       // two of level 1
	refused(t, l, Task{[]int{1, 2, 3}, 3}, 9, 1) // two of level 3
	comes(t, l, Task{[]int{1, 2, 3}, 3}, 9, 0, []Run{run(7, 3, 9)})
	for _, l := range noTrees() {
		refused(t, l, Task{}, 1000, 0)
		refused(t, l, Task{Files: []int{1}}, 1000, 1)
		refused(t, l, Task{Files: []int{1}}, 1000, 0)
	}
}

// plainAfter is the runs behind a task; false, if it can't be done. Only for counts that are small.
func plainAfter(l []Run, x Task, file, count int) ([]Run, bool) {
	var out []Run
	named := map[int]int{}
	for _, f := range x.Files {
		named[f]++
	}
	found := 0
	for _, r := range l {
		if named[r.File] == 0 {
			out = append(out, r)
			continue
		}
		found++
	}
	good := found == len(x.Files) && file > 0 && count >= 0 && count <= countsOf(l, x.Files) && x.Level >= 0 && x.Level < 4
	for _, r := range out {
		good = good && r.File != file
	}
	if count != 0 {
		out = append(out, run(file, x.Level, count))
	}
	return out, good && plainRight(l) && plainRight(out)
}

func TestP16_2MadeByRule(t *testing.T) {
	x := uint32(5)
	next := func(n int) int {
		x = some(x)
		return int(x>>16) % n
	}
	done := 0
	for range 100000 {
		var l []Run
		l, x = madeTree(x)
		task := Task{Level: next(12)/2 - 1}
		for _, r := range l {
			switch next(12) {
			case 0, 1, 2, 3, 4, 5, 6:
				task.Files = append(task.Files, r.File)
			case 7:
				task.Files = append(task.Files, r.File+next(2), r.File)
			}
		}
		file, count := next(60), next(countsOf(l, task.Files)+3)-1
		want, ok := plainAfter(l, task, file, count)
		got, e := After(l, task, file, count)
		if ok != (e == api.OK) || ok && !slices.Equal(got, want) || !ok && (e != api.ErrArg || len(got) != 0) {
			t.Fatalf("After(%v, %v, %d, %d) = %v, %v, not %v, %v", l, task, file, count, got, e, want, ok)
		}
		if ok {
			done++
		}
	}
	if done < 10000 {
		t.Errorf("only %d tasks could be done", done)
	}
}

// countsFor is the counts that matter of those that a task may come to.
func countsFor(sum int) []int {
	var l []int
	for _, c := range []int{0, 1, 64, 65, 256, 257, sum} {
		if c <= sum {
			l = append(l, c)
		}
	}
	return l
}

// longest is how many tasks are done at most, with the worst counts, till nothing is offered; it holds each of them against the words.
func longest(t *testing.T, l []Run, fresh, left int) int {
	t.Helper()
	x, ok := offers(t, l)
	if !ok {
		settled(t, l)
		return 0
	}
	if left == 0 {
		t.Fatalf("too many tasks: %v is still left", l)
	}
	most := 0
	for _, count := range countsFor(countsOf(l, x.Files)) {
		for _, file := range []int{fresh, x.Files[0]} { // a file of the task's own may be taken too
			behind, e := After(l, x, file, count)
			if e != api.OK || !Right(behind) {
				t.Fatalf("After(%v, %v, %d, %d) = %v, %v", l, x, file, count, behind, e)
			}
			if file == fresh {
				most = max(most, longest(t, behind, fresh+1, left-1))
			}
		}
	}
	return most + 1
}

// settled tells that nothing is to be done.
func settled(t *testing.T, l []Run) {
	t.Helper()
	for level := range 4 {
		if Full(l, level) {
			t.Fatalf("the level %d of %v is full, and nothing is offered", level, l)
		}
	}
	if slices.ContainsFunc(l, func(r Run) bool { return r.Stale }) {
		t.Fatalf("a run of %v is stale, and nothing is offered", l)
	}
}

// someTrees is trees of up to three runs of level 0, and one or none of each other level, with the counts that matter.
func someTrees() [][]Run {
	var upper [][]Run
	for _, a := range []Run{{}, run(11, 1, 64), run(11, 1, 65), run(11, 1, 257), old(11, 1, 64), old(11, 1, 257)} {
		for _, b := range []Run{{}, run(12, 2, 256), run(12, 2, 257), old(12, 2, 1), old(12, 2, 257)} {
			for _, c := range []Run{{}, run(13, 3, 1), old(13, 3, 400)} {
				upper = append(upper, slices.DeleteFunc([]Run{a, b, c}, func(r Run) bool { return r.File == 0 }))
			}
		}
	}
	var l [][]Run
	for _, u := range upper {
		for _, first := range [][]Run{nil, {run(1, 0, 1)}, {old(1, 0, 300)}, {run(2, 0, 300), old(1, 0, 300)}, {old(1, 0, 1), old(2, 0, 20), run(3, 0, 500)}} {
			l = append(l, slices.Concat(first, u))
		}
	}
	return l
}

func TestP16_3Ends(t *testing.T) {
	for _, l := range someTrees() {
		if n := longest(t, l, 100, len(l)+3); n > len(l)+3 {
			t.Errorf("%v: %d tasks", l, n)
		}
	}
}

// ends does what is offered, with counts by a rule, and tells that it comes to an end in time.
func ends(t *testing.T, l []Run, x uint32) uint32 {
	t.Helper()
	first := l
	for done := 0; ; done++ {
		task, ok := offers(t, l)
		if !ok {
			settled(t, l)
			return x
		}
		if done == len(first)+3 {
			t.Fatalf("%v: %d tasks, and %v is left", first, done, l)
		}
		x = some(x)
		counts := countsFor(countsOf(l, task.Files))
		behind, e := After(l, task, 1000+done, counts[int(x>>16)%len(counts)])
		if e != api.OK {
			t.Fatalf("After(%v, %v): %v", l, task, e)
		}
		l = behind
	}
}

func TestP16_3MadeByRule(t *testing.T) {
	x := uint32(7)
	for range 20000 {
		var l []Run
		l, x = madeTree(x)
		x = ends(t, l, x)
	}
	for n := range 65 {
		for range 20 {
			x = ends(t, low(n), x)
		}
	}
}

func TestP16_4NothingOffered(t *testing.T) {
	x := uint32(9)
	nothing := 0
	for range 50000 {
		var l []Run
		l, x = madeTree(x)
		if _, ok, e := Offer(l); !ok && e == api.OK {
			settled(t, l)
			nothing++
		}
	}
	if nothing < 1000 {
		t.Errorf("only %d trees without something to do", nothing)
	}
}

func TestP16_5MayBeDone(t *testing.T) {
	x := uint32(11)
	done := func(l []Run) {
		task, ok, e := Offer(l)
		if e != api.OK {
			t.Fatalf("Offer(%v): %v", l, e)
		}
		if !ok {
			return
		}
		for _, count := range []int{0, countsOf(l, task.Files)} {
			behind, e := After(l, task, 1000, count)
			if e != api.OK || !Right(behind) || !plainRight(behind) {
				t.Fatalf("After(%v, %v, 1000, %d) = %v, %v", l, task, count, behind, e)
			}
		}
	}
	for range 50000 {
		var l []Run
		l, x = madeTree(x)
		done(l)
	}
	for n := range 65 {
		done(low(n))
	}
	for _, l := range someTrees() {
		done(l)
	}
}

func TestP1NotChangedNewMemory(t *testing.T) {
	room := []Run{old(3, 0, 1), run(1, 0, 2), run(2, 1, 3), run(9, 3, 4), run(1, 1, 1)}
	kept := slices.Clone(room)
	l := room[:4]
	files := []int{3, 1, 2, 77}
	x := Task{files[:3], 1}
	for range 2 {
		behind, e := After(l, x, 5, 6)
		if want := []Run{run(9, 3, 4), run(5, 1, 6)}; e != api.OK || !slices.Equal(behind, want) {
			t.Fatalf("After = %v, %v", behind, e)
		}
		clear(behind[:cap(behind)])
		same, e := After(l, Task{}, 5, 0)
		if e != api.OK || !slices.Equal(same, l) {
			t.Fatalf("After = %v, %v", same, e)
		}
		clear(same[:cap(same)])
		task, _ := offers(t, l)
		clear(task.Files[:cap(task.Files)])
		Right(l)
		Full(l, 0)
		if !slices.Equal(room, kept) || !slices.Equal(files, []int{3, 1, 2, 77}) {
			t.Fatalf("what was handed in has changed: %v, %v", room, files)
		}
	}
}

// fuzzed is runs that bytes stand for, four a run.
func fuzzed(b []byte) []Run {
	var l []Run
	for ; len(b) >= 4; b = b[4:] {
		l = append(l, Run{File: int(int8(b[0])), Level: int(int8(b[1])), Count: 2 * int(int8(b[2])), Stale: b[3]%2 == 1})
	}
	return l
}

// FuzzOffer: any runs are answered, and what is offered of a tree may be done.
func FuzzOffer(f *testing.F) {
	f.Add([]byte{3, 0, 1, 0, 1, 0, 2, 0, 2, 1, 3, 0}, 9, 4, 1)
	f.Add([]byte{5, 0, 1, 1}, -1, math.MaxInt, math.MinInt)
	f.Fuzz(func(t *testing.T, b []byte, file, count, level int) {
		l := fuzzed(b)
		if Right(l) != plainRight(l) {
			t.Fatalf("Right(%v) = %v", l, Right(l))
		}
		x := Task{Level: level}
		for _, r := range l {
			if r.Stale {
				x.Files = append(x.Files, r.File)
			}
		}
		want, ok := plainAfter(l, x, file, count)
		if got, e := After(l, x, file, count); ok != (e == api.OK) || ok && !slices.Equal(got, want) {
			t.Fatalf("After(%v, %v, %d, %d) = %v, %v", l, x, file, count, got, e)
		}
		if !Right(l) {
			return
		}
		ends(t, l, uint32(count))
	})
}
