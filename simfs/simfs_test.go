package simfs

import (
	"bytes"
	"fmt"
	"maps"
	"math"
	"slices"
	"strconv"
	"strings"
	"testing"

	"rickyard/api"
)

// some is the next number of a row that is made by a rule.
func some(x uint32) uint32 {
	return x*1664525 + 1013904223
}

// call is a call that changes a file system.
type call struct {
	what     string
	name, to string
	b        string
	n        int
	keeps    []int
	e        api.Errno
}

func create(name string) call          { return call{what: "Create", name: name} }
func appendTo(name, b string) call     { return call{what: "Append", name: name, b: b} }
func syncOf(name string) call          { return call{what: "Sync", name: name} }
func rename(from, to string) call      { return call{what: "Rename", name: from, to: to} }
func remove(name string) call          { return call{what: "Remove", name: name} }
func syncDir() call                    { return call{what: "SyncDir"} }
func crash(ops int, keeps ...int) call { return call{what: "Crash", n: ops, keeps: keeps} }
func fail(after int, e api.Errno) call { return call{what: "Fail", n: after, e: e} }
func (c call) String() string {
	return fmt.Sprintf("%s(%q %q %.20q %d %v %d)", c.what, c.name, c.to, c.b, c.n, c.keeps, c.e)
}

// on is what a file system answers.
func (c call) on(f *FS) api.Errno {
	switch c.what {
	case "Create":
		return f.Create(c.name)
	case "Append":
		return f.Append(c.name, []byte(c.b))
	case "Sync":
		return f.Sync(c.name)
	case "Rename":
		return f.Rename(c.name, c.to)
	case "Remove":
		return f.Remove(c.name)
	case "SyncDir":
		return f.SyncDir()
	case "Crash":
		return f.Crash(c.n, c.keeps)
	}
	return f.Fail(c.n, c.e)
}

// plain is a file system that keeps a copy of the directory behind each change: the first one is synced, the last one is now. Files are numbers.
type plain struct {
	room   int
	dirs   []map[string]int
	bytes  map[int]string
	synced map[int]string
	next   int
	plan   []api.Errno // what the next calls that would be OK answer
}

func newPlain(room int) *plain {
	return &plain{room: room, dirs: []map[string]int{{}}, bytes: map[int]string{}, synced: map[int]string{}}
}

func (p *plain) now() map[string]int {
	return p.dirs[len(p.dirs)-1]
}

func (p *plain) names() []string {
	var l []string
	for name := range p.now() {
		l = append(l, name)
	}
	slices.Sort(l)
	return l
}

func (p *plain) used() int {
	n := 0
	for _, x := range p.now() {
		n += len(p.bytes[x])
	}
	return n
}

func plainName(s string) bool {
	return len(s) >= 1 && len(s) <= 32 && strings.Trim(s, "abcdefghijklmnopqrstuvwxyz0123456789.-") == ""
}

// refuses is why a call of P11.2 would not be OK.
func (p *plain) refuses(c call) api.Errno {
	x, there := p.now()[c.name]
	switch {
	case c.what == "SyncDir":
		return api.OK
	case c.what == "Create" && !plainName(c.name) || c.what == "Rename" && !plainName(c.to):
		return api.ErrArg
	case c.what == "Create" && there:
		return api.ErrExists
	case c.what == "Create" && len(p.now()) == 256:
		return api.ErrSpace
	case c.what != "Create" && !there:
		return api.ErrNone
	case c.what == "Append" && len(p.bytes[x])+len(c.b) > 1048576:
		return api.ErrLong
	case c.what == "Append" && p.used()+len(c.b) > p.room:
		return api.ErrSpace
	}
	return api.OK
}

func (p *plain) do(c call) api.Errno {
	switch c.what {
	case "Crash":
		p.crash(c.n, c.keeps)
		return api.OK
	case "Fail":
		return p.fail(c.n, c.e)
	}
	if e := p.refuses(c); e != api.OK {
		return e
	}
	if len(p.plan) > 0 {
		e := p.plan[0]
		p.plan = p.plan[1:]
		if e != api.OK {
			return e
		}
	}
	x := p.now()[c.name]
	dir := maps.Clone(p.now())
	switch c.what {
	case "Create":
		p.next++
		dir[c.name] = p.next
	case "Append":
		p.bytes[x] += c.b
		return api.OK
	case "Sync":
		p.synced[x] = p.bytes[x]
		return api.OK
	case "Rename":
		delete(dir, c.name)
		dir[c.to] = x
	case "Remove":
		delete(dir, c.name)
	case "SyncDir":
		p.dirs = []map[string]int{dir}
		return api.OK
	}
	p.dirs = append(p.dirs, dir)
	return api.OK
}

func (p *plain) crash(ops int, keeps []int) {
	at := ops
	if at < 0 {
		at = 0
	}
	if at >= len(p.dirs) {
		at = len(p.dirs) - 1
	}
	p.dirs = []map[string]int{p.dirs[at]}
	p.plan = nil
	for i, name := range p.names() {
		x := p.now()[name]
		left := p.synced[x]
		more := p.bytes[x][len(left):]
		for n := 0; i < len(keeps) && n < keeps[i] && n < len(more); n++ {
			left += more[n : n+1]
		}
		p.bytes[x], p.synced[x] = left, left
	}
}

func (p *plain) fail(after int, e api.Errno) api.Errno {
	if e != 81 && e != 82 {
		return api.ErrArg
	}
	p.plan = nil
	if after >= 0 {
		p.plan = append(make([]api.Errno, after), e)
	}
	return api.OK
}

// same holds all that a file system tells against a plain one.
func same(t *testing.T, name string, f *FS, p *plain) {
	t.Helper()
	if got := f.List(); !slices.Equal(got, p.names()) {
		t.Fatalf("%s: List = %q, not %q", name, got, p.names())
	}
	if got := f.Used(); got != p.used() {
		t.Fatalf("%s: Used = %d, not %d", name, got, p.used())
	}
	for _, n := range append(p.names(), "a", "none", "", "A") {
		x, there := p.now()[n]
		b, e := f.Read(n)
		if there && (e != api.OK || string(b) != p.bytes[x]) || !there && (e != api.ErrNone || len(b) != 0) {
			t.Fatalf("%s: Read(%q) = %q, %v, not %q", name, n, b, e, p.bytes[x])
		}
	}
}

// made is a file system without files.
func made(t *testing.T, room int) *FS {
	t.Helper()
	f, e := New(room)
	if e != api.OK || f == nil {
		t.Fatalf("New(%d): %v", room, e)
	}
	return f
}

// played is what some calls make of a file system and of a plain one, which answer the same to each.
func played(t *testing.T, room int, calls ...call) (*FS, *plain) {
	t.Helper()
	f, p := made(t, room), newPlain(room)
	for i, c := range calls {
		if got, want := c.on(f), p.do(c); got != want {
			t.Fatalf("behind %v: %v = %v, not %v", calls[:i], c, got, want)
		}
	}
	same(t, fmt.Sprint(calls), f, p)
	return f, p
}

// crashes holds it against the plain one behind crashes of many kinds.
func crashes(t *testing.T, room int, calls ...call) {
	t.Helper()
	_, p := played(t, room, calls...)
	for ops := -1; ops <= len(p.dirs); ops++ {
		for _, keeps := range [][]int{nil, {0, 1}, {1}, {2, -1, 1}, {100, 100, 100, 100, 100}} {
			played(t, room, append(slices.Clone(calls), crash(ops, keeps...))...)
		}
	}
}

// ok makes each call, which must be OK.
func ok(t *testing.T, f *FS, calls ...call) {
	t.Helper()
	for _, c := range calls {
		if e := c.on(f); e != api.OK {
			t.Fatalf("%v = %v", c, e)
		}
	}
}

// answers makes a call, which must answer this.
func answers(t *testing.T, f *FS, c call, want api.Errno) {
	t.Helper()
	if e := c.on(f); e != want {
		t.Errorf("%v = %v, not %v", c, e, want)
	}
}

// has tells whether a file system has just these names and bytes: a name, then its bytes, and so on.
func has(t *testing.T, f *FS, want ...string) {
	t.Helper()
	var got []string
	for _, name := range f.List() {
		b, e := f.Read(name)
		if e != api.OK {
			t.Errorf("Read(%q): %v", name, e)
		}
		got = append(got, name, string(b))
	}
	if !slices.Equal(got, want) {
		t.Errorf("there is %q, not %q", got, want)
	}
}

func TestP11_1New(t *testing.T) {
	for _, room := range []int{1, 2, 100, math.MaxInt} {
		f := made(t, room)
		same(t, "new", f, newPlain(room))
	}
	for _, room := range []int{0, -1, -100, math.MinInt} {
		if f, e := New(room); f != nil || e != api.ErrArg {
			t.Errorf("New(%d) = %v, %v", room, f, e)
		}
	}
}

func TestP11_1Nil(t *testing.T) {
	for _, f := range []*FS{nil, {}} {
		calls := []call{
			create("a"), create(""), appendTo("a", "1"), appendTo("", ""), syncOf("a"), rename("a", "b"), rename("a", ""), remove("a"), syncDir(),
			crash(0), crash(-1, 1, 2), crash(5, 1), fail(0, api.ErrIO), fail(-1, api.ErrSpace), fail(0, api.OK), fail(3, api.ErrArg),
		}
		for range 2 {
			for _, c := range calls {
				answers(t, f, c, api.ErrNil)
			}
		}
		if b, e := f.Read("a"); len(b) != 0 || e != api.ErrNil {
			t.Errorf("Read = %v, %v", b, e)
		}
		if l := f.List(); len(l) != 0 || f.Used() != 0 {
			t.Errorf("List, Used = %v, %d", l, f.Used())
		}
	}
}

func TestP11_1Read(t *testing.T) {
	f := made(t, 100)
	ok(t, f, create("a"), appendTo("a", "one\x00"), appendTo("a", "two"), create("b"))
	has(t, f, "a", "one\x00two", "b", "")
	for _, name := range []string{"", "c", "aa", "A", "a\x00", strings.Repeat("a", 33), "\xff"} {
		if b, e := f.Read(name); len(b) != 0 || e != api.ErrNone {
			t.Errorf("Read(%q) = %q, %v", name, b, e)
		}
	}
}

func TestP11_1List(t *testing.T) {
	names := []string{"b", "a", "-", ".", "0", "9", "aa", "a.b", "a-b", "a0", "wal-12", "wal-2", "z", strings.Repeat("z", 32)}
	f := made(t, 100)
	for _, name := range names {
		ok(t, f, create(name))
	}
	want := slices.Clone(names)
	slices.Sort(want)
	if got := f.List(); !slices.Equal(got, want) {
		t.Errorf("List = %q", got)
	}
}

func TestP11_1Used(t *testing.T) {
	f := made(t, 100)
	used := func(c call, want int) {
		t.Helper()
		ok(t, f, c)
		if got := f.Used(); got != want {
			t.Errorf("behind %v: Used = %d, not %d", c, got, want)
		}
	}
	used(create("a"), 0)
	used(appendTo("a", "123"), 3)
	used(create("b"), 3)
	used(appendTo("b", "4567"), 7)
	used(syncOf("a"), 7)
	used(rename("a", "c"), 7)
	used(rename("b", "c"), 4)
	used(create("a"), 4)
	used(appendTo("a", "89"), 6)
	used(remove("c"), 2)
	used(syncDir(), 2)
	used(crash(0), 0)
}

func TestP11_2CreateNames(t *testing.T) {
	for x := range 256 {
		for _, name := range []string{string([]byte{byte(x)}), string([]byte{'a', byte(x), 'z'}), string([]byte{'a', byte(x)}), string([]byte{byte(x), 'a'})} {
			f := made(t, 1)
			want := api.ErrArg
			if x >= 'a' && x <= 'z' || x >= '0' && x <= '9' || x == '.' || x == '-' {
				want = api.OK
			}
			answers(t, f, create(name), want)
			if want == api.OK {
				has(t, f, name, "")
			} else {
				has(t, f)
			}
		}
	}
	f := made(t, 1)
	ok(t, f, create(strings.Repeat("x", 32)), create(strings.Repeat("x", 31)), create("x"))
	for _, name := range []string{"", strings.Repeat("x", 33), strings.Repeat("x", 1000), "ä", "a b", "a/b", "a_b", strings.Repeat("x", 31) + "X"} {
		answers(t, f, create(name), api.ErrArg)
	}
	if len(f.List()) != 3 {
		t.Errorf("List = %q", f.List())
	}
}

// numbered is so many calls that make files.
func numbered(n int) []call {
	var l []call
	for i := range n {
		l = append(l, create("f"+strconv.Itoa(i)))
	}
	return l
}

func TestP11_2CreateMany(t *testing.T) {
	f := made(t, 1)
	ok(t, f, numbered(256)...)
	answers(t, f, create("more"), api.ErrSpace)
	answers(t, f, create("f7"), api.ErrExists)
	answers(t, f, create("F"), api.ErrArg)
	answers(t, f, create(""), api.ErrArg)
	ok(t, f, rename("f0", "other"))
	answers(t, f, create("f0"), api.ErrSpace)
	ok(t, f, rename("f1", "f2"), create("f0"))
	answers(t, f, create("f1"), api.ErrSpace)
	ok(t, f, remove("f9"), create("f1"))
	answers(t, f, create("f9"), api.ErrSpace)
	if len(f.List()) != 256 {
		t.Errorf("%d names", len(f.List()))
	}
}

func TestP11_2CreateAgain(t *testing.T) {
	f := made(t, 10)
	ok(t, f, create("a"), appendTo("a", "1"))
	answers(t, f, create("a"), api.ErrExists)
	has(t, f, "a", "1")
	ok(t, f, remove("a"), create("a"))
	has(t, f, "a", "")
}

func TestP11_2Append(t *testing.T) {
	f := made(t, 5)
	answers(t, f, appendTo("a", ""), api.ErrNone)
	answers(t, f, appendTo("a", strings.Repeat("x", 1048577)), api.ErrNone)
	ok(t, f, create("a"), create("b"), appendTo("a", "12"), appendTo("b", "3"), appendTo("a", ""), appendTo("a", "4"))
	has(t, f, "a", "124", "b", "3")
	answers(t, f, appendTo("b", "56"), api.ErrSpace)
	answers(t, f, appendTo("b", strings.Repeat("x", 1048575)), api.ErrSpace)
	answers(t, f, appendTo("b", strings.Repeat("x", 1048576)), api.ErrLong)
	has(t, f, "a", "124", "b", "3")
	ok(t, f, appendTo("b", "5"), appendTo("b", ""), appendTo("a", ""))
	answers(t, f, appendTo("a", "6"), api.ErrSpace)
	ok(t, f, remove("b"), appendTo("a", "67"))
	answers(t, f, appendTo("a", "8"), api.ErrSpace)
	has(t, f, "a", "12467")
}

func TestP11_2AppendLong(t *testing.T) {
	f := made(t, math.MaxInt)
	whole := strings.Repeat("x", 1048576)
	ok(t, f, create("a"), create("b"), create("c"))
	answers(t, f, appendTo("a", whole+"y"), api.ErrLong)
	ok(t, f, appendTo("a", whole), appendTo("a", ""), appendTo("b", whole[1:]), appendTo("c", whole[:9]))
	answers(t, f, appendTo("a", "y"), api.ErrLong)
	answers(t, f, appendTo("b", "yy"), api.ErrLong)
	answers(t, f, appendTo("c", whole[8:]), api.ErrLong)
	ok(t, f, appendTo("b", "y"), appendTo("c", whole[9:]))
	has(t, f, "a", whole, "b", whole[1:]+"y", "c", whole)
	if f.Used() != 3*1048576 {
		t.Errorf("Used = %d", f.Used())
	}
}

// A crash may bring bytes back for which the room has gone: then nothing more fits, not even nothing.
func TestP11_2AppendAboveRoom(t *testing.T) {
	calls := []call{create("a"), appendTo("a", "123"), syncOf("a"), create("b"), syncDir(), remove("a"), appendTo("b", "456"), syncOf("b")}
	f, _ := played(t, 3, calls...)
	ok(t, f, appendTo("b", ""), crash(0))
	has(t, f, "a", "123", "b", "456")
	answers(t, f, appendTo("b", "7"), api.ErrSpace)
	answers(t, f, appendTo("b", ""), api.ErrSpace)
	ok(t, f, remove("a"), appendTo("b", ""))
	answers(t, f, appendTo("b", "7"), api.ErrSpace)
	crashes(t, 3, calls...)
}

func TestP11_2Sync(t *testing.T) {
	f := made(t, 10)
	answers(t, f, syncOf("a"), api.ErrNone)
	answers(t, f, syncOf(""), api.ErrNone)
	ok(t, f, create("a"), create("b"), syncDir(), appendTo("a", "1"), appendTo("b", "2"), syncOf("a"), syncOf("a"), appendTo("a", "3"), crash(0))
	has(t, f, "a", "1", "b", "")
}

func TestP11_2Rename(t *testing.T) {
	f := made(t, 10)
	ok(t, f, create("a"), appendTo("a", "1"), create("b"), appendTo("b", "2"))
	for _, to := range []string{"", "A", "a b", strings.Repeat("x", 33)} {
		answers(t, f, rename("a", to), api.ErrArg)
		answers(t, f, rename("none", to), api.ErrArg)
		answers(t, f, rename("", to), api.ErrArg)
	}
	answers(t, f, rename("none", "c"), api.ErrNone)
	answers(t, f, rename("none", "a"), api.ErrNone)
	answers(t, f, rename("", "a"), api.ErrNone)
	answers(t, f, rename("A", "a"), api.ErrNone)
	has(t, f, "a", "1", "b", "2")
	ok(t, f, rename("a", "c"))
	has(t, f, "b", "2", "c", "1")
	ok(t, f, rename("c", "b"))
	has(t, f, "b", "1")
	answers(t, f, rename("c", "b"), api.ErrNone)
	ok(t, f, appendTo("b", "3"), rename("b", strings.Repeat("x", 32)))
	has(t, f, strings.Repeat("x", 32), "13")
}

// A file that is given its own name again has it; what was done is pending all the same.
func TestP11_2RenameItself(t *testing.T) {
	f := made(t, 10)
	ok(t, f, create("a"), appendTo("a", "1"), rename("a", "a"))
	has(t, f, "a", "1")
	ok(t, f, create("b"), crash(2))
	has(t, f, "a", "")
	crashes(t, 10, create("a"), syncDir(), rename("a", "a"), appendTo("a", "12"), rename("a", "b"), rename("b", "b"), remove("b"))
}

func TestP11_2Remove(t *testing.T) {
	f := made(t, 10)
	answers(t, f, remove("a"), api.ErrNone)
	answers(t, f, remove(""), api.ErrNone)
	ok(t, f, create("a"), create("b"), remove("a"))
	has(t, f, "b", "")
	answers(t, f, remove("a"), api.ErrNone)
	answers(t, f, appendTo("a", "1"), api.ErrNone)
	answers(t, f, syncOf("a"), api.ErrNone)
}

func TestP11_2SyncDir(t *testing.T) {
	f := made(t, 10)
	ok(t, f, syncDir(), create("a"), create("b"), rename("b", "c"), create("d"), remove("d"), syncDir(), crash(0))
	has(t, f, "a", "", "c", "")
	ok(t, f, remove("a"), syncDir(), syncDir(), create("e"), crash(0))
	has(t, f, "c", "")
}

// each is one call of each kind of P11.2 that is OK behind ready.
func each() []call {
	return []call{create("new"), appendTo("a", "2"), syncOf("a"), rename("a", "b"), rename("a", "c"), remove("a"), syncDir()}
}

// ready is a file that is synced, one that is not, and more.
func ready() []call {
	return []call{create("a"), appendTo("a", "1"), create("b"), appendTo("b", "4"), syncOf("b"), syncDir(), appendTo("b", "5"), create("d")}
}

// refused is calls that are refused behind ready, each in its way, with room for 6 bytes.
func refused() []call {
	return []call{
		create("a"), create("A"), appendTo("none", ""), appendTo("a", strings.Repeat("x", 1048576)), appendTo("a", "6789"),
		syncOf("none"), rename("a", "A"), rename("none", "a"), remove("none"), fail(0, api.OK), fail(-1, api.ErrArg), fail(0, api.ErrNone),
	}
}

func TestP11_3Fail(t *testing.T) {
	for _, e := range []api.Errno{api.ErrSpace, api.ErrIO} {
		for _, c := range each() {
			for after := range 4 {
				f, p := played(t, 6, ready()...)
				ok(t, f, fail(after, e))
				for range after {
					ok(t, f, syncOf("d"))
				}
				answers(t, f, c, e)
				same(t, c.String()+" failed", f, p)
				ok(t, f, c)
				p.do(c)
				same(t, c.String()+" again", f, p)
				ok(t, f, syncDir(), syncDir())
			}
		}
	}
}

func TestP11_3Counts(t *testing.T) {
	for i := range each() {
		f, _ := played(t, 6, ready()...)
		l := slices.DeleteFunc(each(), func(c call) bool { return c.name == "a" && c.what != "Append" && c.what != "Sync" })
		l = append(l, rename("a", "b"), remove("b"), create("x"))
		ok(t, f, fail(i, api.ErrIO))
		ok(t, f, l[:i]...)
		answers(t, f, l[i], api.ErrIO)
		ok(t, f, l[i:]...)
	}
}

func TestP11_3RefusedIsNotCounted(t *testing.T) {
	f, _ := played(t, 6, ready()...)
	ok(t, f, fail(2, api.ErrIO))
	refuse := func() {
		for _, c := range refused() {
			if c.on(f) == api.OK {
				t.Errorf("%v is OK", c)
			}
			f.Read("a")
			f.Read("none")
			f.List()
			f.Used()
		}
	}
	refuse()
	ok(t, f, syncOf("a"))
	refuse()
	ok(t, f, syncOf("a"))
	refuse()
	answers(t, f, create("A"), api.ErrArg)
	answers(t, f, create("a"), api.ErrExists)
	answers(t, f, appendTo("none", ""), api.ErrNone)
	answers(t, f, appendTo("a", strings.Repeat("x", 1048576)), api.ErrLong)
	answers(t, f, appendTo("a", "6789"), api.ErrSpace)
	answers(t, f, syncOf("a"), api.ErrIO)
	ok(t, f, syncOf("a"), syncOf("a"))
}

func TestP11_3Wrong(t *testing.T) {
	for e := api.Errno(-1); e < 130; e++ {
		if e == api.ErrSpace || e == api.ErrIO {
			continue
		}
		for _, after := range []int{0, 1, -1, math.MinInt, math.MaxInt} {
			f := made(t, 10)
			answers(t, f, fail(after, e), api.ErrArg)
			ok(t, f, syncDir(), syncDir(), fail(1, api.ErrIO))
			answers(t, f, fail(after, e), api.ErrArg)
			ok(t, f, syncDir())
			answers(t, f, fail(after, e), api.ErrArg)
			answers(t, f, syncDir(), api.ErrIO)
		}
	}
}

func TestP11_3Plans(t *testing.T) {
	f := made(t, 10)
	ok(t, f, fail(0, api.ErrIO), fail(-1, api.ErrIO), syncDir())
	ok(t, f, fail(0, api.ErrIO), fail(math.MinInt, api.ErrSpace), syncDir())
	ok(t, f, fail(0, api.ErrIO), fail(1, api.ErrSpace), syncDir())
	answers(t, f, syncDir(), api.ErrSpace)
	ok(t, f, syncDir(), syncDir())
	ok(t, f, fail(2, api.ErrSpace), syncDir(), fail(2, api.ErrIO), syncDir(), syncDir())
	answers(t, f, syncDir(), api.ErrIO)
	ok(t, f, fail(math.MaxInt, api.ErrIO), syncDir(), syncDir())
	ok(t, f, fail(0, api.ErrIO))
	answers(t, f, syncDir(), api.ErrIO)
	ok(t, f, fail(0, api.ErrSpace))
	answers(t, f, syncDir(), api.ErrSpace)
	ok(t, f, syncDir())
}

func TestP11_4Example(t *testing.T) {
	ahead := []call{create("a"), appendTo("a", "\x01\x02"), syncOf("a"), appendTo("a", "\x03")}
	f, _ := played(t, 10, append(ahead, crash(0))...)
	has(t, f)
	f, _ = played(t, 10, append(ahead, syncDir(), crash(0))...)
	has(t, f, "a", "\x01\x02")
	f, _ = played(t, 10, append(ahead, syncDir(), crash(0, 1))...)
	has(t, f, "a", "\x01\x02\x03")
	f, _ = played(t, 10, append(ahead, crash(1))...)
	has(t, f, "a", "\x01\x02")
}

func TestP11_4Ops(t *testing.T) {
	ahead := []call{
		create("a"), appendTo("a", "1"), syncOf("a"), syncDir(),
		create("b"), rename("a", "c"), remove("b"), create("a"), rename("a", "c"), create("b"), remove("c"),
		appendTo("b", "2"), syncOf("b"),
	}
	want := [][]string{{"a", "1"}, {"a", "1", "b", ""}, {"b", "", "c", "1"}, {"c", "1"}, {"a", "", "c", "1"}, {"c", ""}, {"b", "2", "c", ""}, {"b", "2"}}
	for _, ops := range []int{math.MinInt, -2, -1, 0, 1, 2, 3, 4, 5, 6, 7, 8, 9, 100, math.MaxInt} {
		f, _ := played(t, 10, append(ahead, crash(ops))...)
		has(t, f, want[min(max(ops, 0), 7)]...)
	}
	crashes(t, 10, ahead...)
}

func TestP11_4Keeps(t *testing.T) {
	ahead := []call{
		create("c"), create("a"), create("b"), syncDir(), appendTo("a", "12"), appendTo("b", "34"), appendTo("c", "56"), syncOf("b"),
		appendTo("b", "789"), appendTo("a", "0"),
	}
	for _, x := range []struct {
		keeps []int
		want  [3]string
	}{
		{nil, [3]string{"", "34", ""}},
		{[]int{}, [3]string{"", "34", ""}},
		{[]int{0, 0, 0}, [3]string{"", "34", ""}},
		{[]int{1}, [3]string{"1", "34", ""}},
		{[]int{2, 1}, [3]string{"12", "347", ""}},
		{[]int{3, 2, 1}, [3]string{"120", "3478", "5"}},
		{[]int{4, 3, 2}, [3]string{"120", "34789", "56"}},
		{[]int{-1, 4, 3, 7, 8}, [3]string{"", "34789", "56"}},
		{[]int{math.MaxInt, math.MaxInt, math.MaxInt}, [3]string{"120", "34789", "56"}},
		{[]int{math.MinInt, math.MinInt, math.MinInt}, [3]string{"", "34", ""}},
	} {
		f, _ := played(t, 100, append(ahead, crash(0, x.keeps...))...)
		has(t, f, "a", x.want[0], "b", x.want[1], "c", x.want[2])
	}
	// The numbers are those of the names behind the crash, whatever they were ahead of it.
	f, _ := played(t, 100, append(ahead, rename("a", "z"), create("aa"), crash(1, 1, 2, 3))...)
	has(t, f, "b", "347", "c", "56", "z", "120")
	f, _ = played(t, 100, append(ahead, remove("a"), create("d"), crash(0, 1, 2, 0))...)
	has(t, f, "a", "1", "b", "3478", "c", "")
}

// What is behind a crash is synced: files, the directory, and there is no plan.
func TestP11_4Synced(t *testing.T) {
	f := made(t, 100)
	ok(t, f, create("a"), appendTo("a", "123"), create("b"), crash(1, 2), appendTo("a", "4"), create("c"), crash(0))
	has(t, f, "a", "12")
	ok(t, f, fail(0, api.ErrIO), crash(9, 9), syncDir(), syncDir())
	ok(t, f, fail(1, api.ErrIO), syncDir(), crash(9, 9), syncDir(), syncDir())
	ok(t, f, fail(1, api.ErrIO), crash(0), crash(0), syncDir(), syncDir(), remove("a"), crash(0))
	has(t, f, "a", "12")
}

// A file that was replaced or removed comes back as it was, and is none of the new one's.
func TestP11_4Replaced(t *testing.T) {
	ahead := []call{
		create("a"), appendTo("a", "12"), syncOf("a"), appendTo("a", "3"), create("b"), appendTo("b", "45"), syncOf("b"), syncDir(),
		rename("b", "a"), appendTo("a", "6"), remove("a"), create("a"), appendTo("a", "789"), syncOf("a"),
	}
	f, _ := played(t, 100, append(ahead, crash(0, 9, 9))...)
	has(t, f, "a", "123", "b", "456")
	f, _ = played(t, 100, append(ahead, crash(1))...)
	has(t, f, "a", "45")
	f, _ = played(t, 100, append(ahead, crash(3))...)
	has(t, f, "a", "789")
	crashes(t, 100, ahead...)
}

// nextCall is a call of a row that is made by a rule, with few names, so that they meet.
func nextCall(x uint32) call {
	names := []string{"a", "b", "c", "d-1", "A", ""}
	name, to := names[x>>4%61%5], names[x>>9%67%6]
	switch x >> 16 % 16 {
	case 0, 1, 2:
		return create(name)
	case 3, 4, 5, 6:
		return appendTo(name, "0123456789"[x>>20%7:][:x>>23%4])
	case 7, 8:
		return syncOf(name)
	case 9, 10:
		return rename(name, to)
	case 11:
		return remove(name)
	case 12:
		return syncDir()
	case 13:
		return fail(int(x>>20%6)-1, api.ErrSpace+api.Errno(x>>24%3))
	case 14:
		return crash(int(x>>20%8)-1, int(x>>24%4)-1, int(x>>26%4), int(x>>28%4), 9)
	}
	return appendTo(name, "")
}

// rows is rows of calls that are made by a rule.
func rows(count, length int) [][]call {
	l := make([][]call, count)
	x := uint32(1)
	for i := range l {
		for range length {
			x = some(x)
			l[i] = append(l[i], nextCall(x))
		}
	}
	return l
}

func TestP11Rows(t *testing.T) {
	for _, l := range rows(3000, 40) {
		played(t, 12, l...)
	}
}

func TestP11_4Rows(t *testing.T) {
	for _, l := range rows(150, 25) {
		crashes(t, 12, l...)
	}
}

func TestP11_5WhatWasSyncedLasts(t *testing.T) {
	for _, l := range rows(400, 30) {
		// What is put behind leaves the name and its bytes as they were synced, or lets them grow.
		l = append(l, fail(-1, api.ErrIO), create("k"), appendTo("k", "\xff\xfe"), syncOf("k"), syncDir())
		l = append(l, appendTo("k", "\xfd"), create("k2"), syncOf("k2"), rename("a", "b"), create("k3"))
		for ops := range 6 {
			for keep := range 3 {
				f, _ := played(t, 1000, append(slices.Clone(l), crash(ops, keep, keep, keep, keep, keep, keep, keep))...)
				if b, e := f.Read("k"); e != api.OK || !bytes.HasPrefix(b, []byte("\xff\xfe")) {
					t.Fatalf("behind %v: %q, %v", l, b, e)
				}
			}
		}
	}
}

func TestP11_6SecondCrash(t *testing.T) {
	for i, l := range rows(300, 30) {
		f, p := played(t, 12, append(l, crash(i%5, i%3, i%4, 9))...)
		for _, c := range []call{crash(0), crash(9, 9, 9, 9), crash(-1, -1), crash(1, 1)} {
			ok(t, f, c)
			same(t, "a second crash", f, p)
		}
	}
}

// What is refused, or fails by the plan, is as if it had not been called, whatever crash comes.
func TestP11_7NothingChanges(t *testing.T) {
	for _, c := range append(refused(), each()...) {
		for ops := -1; ops < 4; ops++ {
			for _, keeps := range [][]int{nil, {1, 1, 1}, {9, 9, 9}} {
				f, p := played(t, 6, ready()...)
				want := p.refuses(c)
				switch {
				case c.what == "Fail":
					want = api.ErrArg
				case want == api.OK:
					ok(t, f, fail(0, api.ErrIO))
					want = api.ErrIO
				}
				answers(t, f, c, want)
				same(t, c.String(), f, p)
				last := crash(ops, keeps...)
				ok(t, f, last)
				p.do(last)
				same(t, c.String()+" and a crash", f, p)
			}
		}
	}
}

func TestP1NewMemory(t *testing.T) {
	f := made(t, 100)
	long := []byte("123456")
	ok(t, f, create("a"), create("b"))
	if e := f.Append("a", long[:3]); e != api.OK || string(long) != "123456" {
		t.Fatalf("Append: %v, %q", e, long)
	}
	long[0], long[3] = 'x', 'y'
	ok(t, f, appendTo("b", "z"))
	has(t, f, "a", "123", "b", "z")
	b, _ := f.Read("a")
	again, _ := f.Read("a")
	for i := range b {
		b[i] = 'x'
	}
	_ = append(b, "more"...)
	if string(again) != "123" {
		t.Errorf("two answers share memory: %q", again)
	}
	l := f.List()
	l[0], l[1] = "x", "y"
	has(t, f, "a", "123", "b", "z")
	keeps := []int{2, 0, 7}
	if f.Crash(2, keeps[:1]); !slices.Equal(keeps, []int{2, 0, 7}) {
		t.Errorf("keeps = %v", keeps)
	}
	has(t, f, "a", "12", "b", "")
	ok(t, f, appendTo("a", "9"))
	has(t, f, "a", "129", "b", "")
	if string(again) != "123" {
		t.Errorf("what was told has changed: %q", again)
	}
}

// What lies behind the length of keeps is not read.
func TestP1BehindLength(t *testing.T) {
	f := made(t, 100)
	ok(t, f, create("a"), create("b"), appendTo("a", "1"), appendTo("b", "2"))
	if e := f.Crash(2, []int{1, 1}[:1]); e != api.OK {
		t.Errorf("Crash: %v", e)
	}
	has(t, f, "a", "1", "b", "")
}

func FuzzCalls(f *testing.F) {
	f.Add([]byte("0123456789abcdef0123456789abcdef"))
	for _, l := range []uint32{1, 7, 99} {
		var b []byte
		for range 160 {
			l = some(l)
			b = append(b, byte(l>>24))
		}
		f.Add(b)
	}
	f.Fuzz(func(t *testing.T, b []byte) {
		var l []call
		for four := range slices.Chunk(b, 4) {
			x := uint32(0)
			for _, y := range four {
				x = x<<8 | uint32(y)
			}
			l = append(l, nextCall(x))
		}
		crashes(t, 12, l[:min(len(l), 60)]...)
	})
}
