package desk

import (
	"fmt"
	"math"
	"slices"
	"strings"
	"testing"

	"rickyard/api"
	"rickyard/ask"
)

func TestP20_1DimsRight(t *testing.T) {
	long := strings.Repeat("a", api.MaxDim+1)
	for s, want := range map[string][]string{
		"-": nil, "a": {"a"}, "z": {"z"}, "0": {"0"}, "9": {"9"}, "a,b": {"a", "b"}, "b,a,a": {"b", "a", "a"}, "007": {"007"},
		"abc,12,x9": {"abc", "12", "x9"}, "a,b,c,d": {"a", "b", "c", "d"}, "a,b,c,d,e": {"a", "b", "c", "d", "e"}, long: {long},
	} {
		if got, e := Dims(s); e != api.OK || !slices.Equal(got, want) {
			t.Errorf("Dims(%q) = %q, %v; want %q", s, got, e, want)
		}
	}
}

func TestP20_1DimsWrong(t *testing.T) {
	wrong := []string{"", ",", "a,", ",a", "a,,b", "--", "-,-", "a,-", "-,a", "-a", "a-", "A", "aB", "a b", " a", "a ", "a\n", "a.b", "a/b", "a_b", "a;b", "é", "a,é", "\xff", "a\x00", "\x00", "+", "1.5", "a, b", "ａ", "１", "ſ"}
	for _, s := range wrong {
		if got, e := Dims(s); e != api.ErrLine || len(got) > 0 {
			t.Errorf("Dims(%q) = %q, %v", s, got, e)
		}
	}
	for c := range 256 {
		s := string([]byte{byte(c)})
		want := api.ErrLine
		if strings.Contains("-abcdefghijklmnopqrstuvwxyz0123456789", s) {
			want = api.OK
		}
		if _, e := Dims(s); e != want {
			t.Errorf("Dims of the byte %d: %v", c, e)
		}
		if want == api.OK && s == "-" {
			want = api.ErrLine
		}
		if _, e := Dims("a" + s + "b"); e != want && s != "," {
			t.Errorf("Dims of the byte %d between two: %v", c, e)
		}
	}
}

func TestP20_1Row(t *testing.T) {
	most := api.Agg{Count: math.MaxUint64, Over: true, Sum: api.Wide{Hi: math.MinInt64}, Min: math.MinInt64, Max: math.MaxInt64}
	for want, x := range map[string]ask.Row{
		"a/10/10/2/7/3/4":          {Dims: []string{"a"}, From: 10, Size: 10, Agg: api.Agg{Count: 2, Sum: api.Wide{Lo: 7}, Min: 3, Max: 4}},
		"-/0/1000/3/8/1/4":         {Size: 1000, Agg: api.Agg{Count: 3, Sum: api.Wide{Lo: 8}, Min: 1, Max: 4}},
		"a,b,c,d/5/1/1/-3/-3/-3":   {Dims: []string{"a", "b", "c", "d"}, From: 5, Size: 1, Agg: api.Agg{Count: 1, Sum: api.Wide{Hi: -1, Lo: math.MaxUint64 - 2}, Min: -3, Max: -3}},
		"-/0/0/0/0/0/0":            {},
		"/0/0/0/0/0/0":             {Dims: []string{""}},
		",/0/0/0/0/0/0":            {Dims: []string{"", ""}},
		"A b,é,\x00/-1/-2/0/0/0/0": {Dims: []string{"A b", "é", "\x00"}, From: -1, Size: -2},
		"-/0/0/1+/0/0/0":           {Dims: []string{}, Agg: api.Agg{Count: 1, Over: true}},
		"x/9223372036854775807/-9223372036854775808/18446744073709551615+/-170141183460469231731687303715884105728/-9223372036854775808/9223372036854775807": {Dims: []string{"x"}, From: math.MaxInt64, Size: math.MinInt64, Agg: most},
		"x/0/1/2/18446744073709551614/0/0": {Dims: []string{"x"}, Size: 1, Agg: api.Agg{Count: 2, Sum: api.Wide{Lo: math.MaxUint64 - 1}}},
	} {
		if got := Row(x); got != want {
			t.Errorf("Row(%v) = %q; want %q", x, got, want)
		}
	}
}

func TestP20_1RowChangesNothing(t *testing.T) {
	dims := []string{"a", "b", "c"}
	if got := Row(ask.Row{Dims: dims[:1]}); got != "a/0/0/0/0/0/0" || !slices.Equal(dims, []string{"a", "b", "c"}) {
		t.Errorf("Row = %q, and %q", got, dims)
	}
}

func TestP20_2Rules(t *testing.T) {
	wrong := []api.Rules{{}, {Keep: 5}, {Grans: []api.Gran{{}}}, {Grans: []api.Gran{{Size: 1, Age: 1}}, Keep: 1}, {Grans: []api.Gran{{Size: 2}, {Size: 3}}, Keep: 9}, {Grans: make([]api.Gran, 9)}, {Grans: []api.Gran{{Size: 1}}, Keep: -1}}
	for _, r := range wrong {
		for _, s := range []string{"", "runs\n", "what\n", strings.Repeat("\n", api.MaxScript+1)} {
			if told, e := Run(r, s); told != "" || e != api.ErrRules {
				t.Errorf("Run(%v) = %q, %v", r, told, e)
			}
		}
	}
}

func TestP20_2RulesAreNotChanged(t *testing.T) {
	grans := []api.Gran{{Size: 1}, {Size: 10, Age: 20}, {Size: 77, Age: 3}}
	r := api.Rules{Grans: grans[:2], Keep: 100}
	told, e := Run(r, script("fact a 12 3", "ingest 1", "mark 50", "open", "get a 15"))
	if e != api.OK || told != "ok\nok\nok\nok\nok a/10/10/1/3/3/3\n" {
		t.Errorf("Run = %q, %v", told, e)
	}
	if !slices.Equal(grans, []api.Gran{{Size: 1}, {Size: 10, Age: 20}, {Size: 77, Age: 3}}) {
		t.Errorf("rules are %v", grans)
	}
}

func TestP20_2Long(t *testing.T) {
	for _, line := range []string{"", "runs", "what"} {
		for _, last := range []string{"", line + "\n", line} {
			all := strings.Repeat(line+"\n", api.MaxScript) + last
			want := api.ErrLong
			if last == "" {
				want = api.OK
			}
			told, e := Run(example(), all)
			if e != want || e != api.OK && told != "" || e == api.OK && strings.Count(told, "\n") != api.MaxScript {
				t.Errorf("%q and %q: %d bytes, %v; want %v", line, last, len(told), e, want)
			}
		}
	}
	if _, e := Run(example(), strings.Repeat("runs\n", api.MaxScript-1)+"runs"); e != api.OK {
		t.Errorf("as many as may be, the last one not ended: %v", e)
	}
	if told, e := Run(example(), strings.Repeat("\n", 1<<20)); e != api.ErrLong || told != "" {
		t.Errorf("very many: %q, %v", told, e)
	}
}

func TestP20_2EndsOfLines(t *testing.T) {
	for s, want := range map[string]string{
		"": "", "runs": "ok\n", "runs\n": "ok\n", "\n": "error 120\n", "\n\n": "error 120\nerror 120\n", "runs\n\n": "ok\nerror 120\n", "\nruns": "error 120\nok\n",
		"runs\nsync": "ok\nok\n", "runs\r\n": "error 120\n", "runs\rsync\n": "error 120\n", "runs\x00": "error 120\n", "runs\n\nstep": "ok\nerror 120\nok no\n",
	} {
		if told, e := Run(example(), s); e != api.OK || told != want {
			t.Errorf("Run(%q) = %q, %v; want %q", s, told, e, want)
		}
	}
}

func TestP20_2EveryLine(t *testing.T) {
	play(t,
		"runs", "ok", "step", "ok no", "flush", "ok", "sync", "ok", "open", "ok", "get - 0", "ok", "scan - 0 5", "ok", "rollup 0 0 5", "ok",
		"fact - 7 -4", "ok", "fact a,x 7 6", "ok", "fact a,y 8 5", "ok", "get - 7", "ok", "ingest 8", "ok",
		"get - 7", "ok -/7/1/1/-4/-4/-4", "get a 7", "ok", "get a,x 7", "ok a,x/7/1/1/6/6/6", "get a,x 8", "ok",
		"scan a 0 8", "ok a,x/7/1/1/6/6/6", "scan a 0 9", "ok a,x/7/1/1/6/6/6 a,y/8/1/1/5/5/5", "scan a 9 9", "ok", "scan b 0 9", "ok",
		"scan - 7 9", "ok -/7/1/1/-4/-4/-4 a,x/7/1/1/6/6/6 a,y/8/1/1/5/5/5",
		"rollup 0 1 9", "ok -/1/8/3/7/-4/6", "rollup 1 0 9", "ok -/0/9/1/-4/-4/-4 a/0/9/2/11/5/6", "rollup 2 0 9", "ok -/0/9/1/-4/-4/-4 x/0/9/1/6/6/6 y/0/9/1/5/5/5",
		"rollup 4611686018427387903 7 8", "ok -/7/1/1/-4/-4/-4 a,x/7/1/1/6/6/6",
		"runs", "ok", "flush", "ok", "runs", "ok 0/3", "step", "ok no", "mark 0", "ok", "mark 29", "ok", "runs", "ok 0/3", "mark 30", "ok", "runs", "ok 0/3*",
		"fact a,x 9 1", "ok", "ingest 1", "ok", "flush", "ok", "runs", "ok 0/1 0/3*", "step", "ok yes", "runs", "ok 1/3", "step", "ok no",
		"fact a 40 1", "ok", "ingest 1", "ok", "runs", "ok 1/3", "open", "ok", "runs", "ok 0/1 1/3",
		"mark 120", "ok", "runs", "ok 0/1* 1/3*", "step", "ok yes", "runs", "ok 0/1 1/3*", "step", "ok yes", "runs", "ok 0/1", "step", "ok no",
		"scan - 0 1000", "ok a/40/10/1/1/1/1",
	)
}

func TestP20_2ErrorsOfTheStore(t *testing.T) {
	play(t,
		"mark 10", "ok", "mark 9", "error 111", "mark -1", "error 1", "mark 1099511627777", "error 1", "mark 10", "ok",
		"get - -1", "error 110", "get - 1099511627777", "error 110", "get - 1099511627776", "ok", "get a,b,c,d,e 1", "error 110", "get a,b,c,d 1", "ok",
		"get aaaaaaaaaaaaaaaaa 1", "error 110", "get aaaaaaaaaaaaaaaa 1", "ok",
		"scan a,b,c,d,e 0 1", "error 110", "scan - 2 1", "error 1", "scan - -1 1", "error 1", "scan - 0 1099511627777", "error 1", "scan - 0 1099511627776", "ok",
		"scan a,b,c,d,e 2 1", "error 110", "rollup -1 0 1", "error 1", "rollup 0 2 1", "error 1", "rollup 1 -1 1", "error 1", "rollup 1 0 1099511627777", "error 1",
		"ingest 1", "error 110", "ingest 0", "error 1", "ingest 9", "error 1", "ingest -4611686018427387903", "error 1", "ingest 4611686018427387903", "error 1",
		"get - 1", "ok", "runs", "ok",
	)
}

func TestP20_2Numbers(t *testing.T) {
	for word, want := range map[string]string{
		"0": "ok", "1": "ok", "10": "ok", "1099511627776": "ok", "4611686018427387903": "error 1", "-1": "error 1", "-10": "error 1", "-4611686018427387903": "error 1",
		"4611686018427387904": "error 120", "-4611686018427387904": "error 120", "9223372036854775807": "error 120", "9223372036854775808": "error 120", "18446744073709551617": "error 120",
		"-18446744073709551615": "error 120", "340282366920938463463374607431768211457": "error 120", "-9223372036854775808": "error 120",
		"10000000000000000000000000000000000000000000000000": "error 120", "-": "error 120", "-0": "error 120", "00": "error 120", "01": "error 120", "-01": "error 120", "--1": "error 120",
		"+1": "error 120", "1-": "error 120", "1.0": "error 120", "1e3": "error 120", "1_0": "error 120", "0x1": "error 120", "a": "error 120", "１": "error 120", "1,2": "error 120", "1\t": "error 120", "\xff": "error 120",
	} {
		play(t, "mark "+word, want)
		if want == "error 120" {
			for _, form := range []string{"ingest %s", "fact a %s 1", "fact a 1 %s", "get a %s", "scan a %s 1", "scan a 1 %s", "rollup %s 1 1", "rollup 1 %s 1", "rollup 1 1 %s"} {
				play(t, strings.Replace(form, "%s", word, 1), want)
			}
		}
	}
}

func TestP20_2ValuesAtTheEdges(t *testing.T) {
	const most = "4611686018427387903"
	play(t,
		"fact a 1099511627776 "+most, "ok", "fact a 1099511627776 "+most, "ok", "fact a 1099511627776 "+most, "ok", "fact b 0 -"+most, "ok", "fact b 0 -"+most, "ok", "fact b 0 -"+most, "ok", "ingest 1", "ok",
		"get a 1099511627776", "ok a/1099511627776/1/3/13835058055282163709/"+most+"/"+most,
		"get b 0", "ok b/0/1/3/-13835058055282163709/-"+most+"/-"+most,
	)
}

func TestP20_2LinesThatAreNone(t *testing.T) {
	wrong := []string{"", " ", "  ", "fact", "fact a", "fact a 1", "fact 1 1", "fact a 1 1 1", "fact  1 1", "fact a  1", "fact a 1 ", "fact A 1 1", "fact a, 1 1", "fact -a 1 1", "fact a 1 b",
		"ingest", "ingest ", "ingest 1 1", "ingest a", "ingest  1", "sync 1", "sync ", " sync", "flush 0", "flush ", "step 1", "step ", "mark", "mark ", "mark 1 2", "mark a", "open 1", "open ",
		"get", "get a", "get 1", "get a 1 1", "get a b", "get a  1", "get  1", "get a 1 ", " get a 1", "scan", "scan -", "scan - 0", "scan - 0 1 2", "scan 0 1", "scan - a 1", "scan - 0  1",
		"rollup", "rollup 1", "rollup 1 0", "rollup 1 0 1 2", "rollup a 0 1", "rollup - 0 1", "rollup a 1 0 1", "runs 1", "runs ", "Runs", "RUNS", "run", "runss", "get\ta\t1", "get a\t1", "sync\t", "sync\r", "close", "crash", "ok", "error 120",
		"# remark", "sync;sync", "é", "\x00", "\xff\xfe", "-", "1", "fact a,,b 1 1", "scan , 0 1", "get a,b,c,d,e,A 1"}
	for _, line := range wrong {
		play(t, line, "error 120")
	}
	// What is no line changes nothing of what the others tell.
	lines := []string{"fact a 12 3", "fact a 15 4", "ingest 1", "mark 50", "get a 12", "flush", "runs", "scan - 0 100", "step", "open", "scan - 0 100"}
	want := run(t, example(), lines...)
	for i, line := range lines {
		all := append(append(slices.Clone(lines[:i]), wrong...), lines[i:]...)
		told := run(t, example(), all...)
		if got := append(slices.Clone(told[:i]), told[i+len(wrong):]...); !slices.Equal(got, want) {
			t.Errorf("ahead of %q: %q; want %q", line, got, want)
		}
	}
}

func TestP20_2NoLineIsKnownByItsFront(t *testing.T) {
	for _, line := range []string{"fact a 1 1", "ingest 1", "sync", "flush", "step", "mark 1", "open", "get a 1", "scan a 1 1", "rollup 1 1 1", "runs"} {
		for i := range len(line) {
			play(t, line[:i], "error 120")
		}
	}
}

func TestP20_2BatchThatWaits(t *testing.T) {
	var lines, want []string
	say := func(line, told string) { lines, want = append(lines, line), append(want, told) }
	for i := range 64 {
		say(fmt.Sprintf("fact a %d 1", i), "ok")
	}
	say("fact a 64 1", "error 5")
	say("fact a 64 x", "error 120")
	say("fact a 65 1", "error 5")
	say("flush", "ok")
	say("open", "ok")
	say("fact a 65 1", "error 5")
	say("ingest x", "error 120")
	say("fact a 65 1", "error 5")
	say("ingest 1", "error 110") // more than a store takes
	say("ingest 1", "error 110") // nothing waits any more
	say("scan - 0 100", "ok")
	for i := range api.MaxBatch {
		say(fmt.Sprintf("fact b %d 2", i%2), "ok")
	}
	say("scan - 0 100", "ok")
	say("open", "ok")
	say("ingest 1", "ok") // what waits is not the store's
	say("scan - 0 100", "ok b/0/1/8/16/2/2 b/1/1/8/16/2/2")
	for i := range api.MaxBatch + 1 {
		say(fmt.Sprintf("fact c %d 2", i), "ok")
	}
	say("ingest 1", "error 110")
	say("fact d 1 2", "ok")
	say("ingest 0", "error 1")
	say("ingest 1", "error 110") // it was empty, whatever came
	say("fact d 1 3", "ok")
	say("ingest 2", "ok")
	say("get d 1", "ok d/1/1/1/3/3/3")
	if told := run(t, example(), lines...); !slices.Equal(told, want) {
		t.Errorf("told %q; want %q", told, want)
	}
}

func TestP20_2FactsThatMayNotBe(t *testing.T) {
	for _, x := range []string{"a -1 1", "a 1099511627777 1", "a,b,c,d,e 1 1", "aaaaaaaaaaaaaaaaa 1 1"} {
		play(t, "fact a 1 1", "ok", "fact "+x, "ok", "ingest 1", "error 110", "scan - 0 100", "ok", "fact a 2 1", "ok", "ingest 1", "ok", "scan - 0 100", "ok a/2/1/1/1/1/1")
	}
}

func TestP20_2ManyRuns(t *testing.T) {
	var lines []string
	for i := range 64 {
		lines = append(append(lines, batchLines(1, fmt.Sprintf("a %d 1", i))...), "flush")
	}
	lines = append(lines, batchLines(1, "b 1 1")...)
	lines = append(lines, "flush", "runs", "rollup 1 0 1000", "open", "runs", "rollup 1 0 1000", "flush", "step", "runs", "rollup 1 0 1000")
	told := run(t, example(), lines...)[64*3+2:]
	sums := "ok a/0/1000/64/64/1/1 b/0/1000/1/1/1/1"
	want := []string{"error 5", "ok" + strings.Repeat(" 0/1", 64), sums, "ok", "ok 0/65", sums, "ok", "ok no", "ok 0/65", sums}
	if !slices.Equal(told, want) {
		t.Errorf("told %q; want %q", told, want)
	}
}

func TestP20_2NewFilesEachTime(t *testing.T) {
	s := script(append(batchLines(1, "a 1 1"), "sync", "flush", "mark 7")...)
	for range 2 {
		if told, e := Run(example(), s+"get a 1\nrollup 0 0 9\n"); e != api.OK || !strings.HasSuffix(told, "ok a/1/1/1/1/1/1\nok -/0/9/1/1/1/1\n") {
			t.Errorf("Run = %q, %v", told, e)
		}
		if told, e := Run(rights()[2], "runs\nmark 6\nget a 1\n"); e != api.OK || told != "ok\nok\nok\n" {
			t.Errorf("Run = %q, %v", told, e)
		}
	}
}

func TestP20_3FirstLines(t *testing.T) {
	m := &made{5}
	lines := append(linesOf(madeActs(m, 300, 200)), "what", "", "get a")
	all, e := Run(example(), script(lines...))
	if e != api.OK {
		t.Fatal(e)
	}
	ended := 0
	for i, line := range lines {
		ended += strings.IndexByte(all[ended:], '\n') + 1
		fronts := []string{script(lines[:i+1]...)}
		if line != "" { // an empty line is one only where it is ended
			fronts = append(fronts, strings.Join(lines[:i+1], "\n"))
		}
		for _, s := range fronts {
			if told, e := Run(example(), s); e != api.OK || told != all[:ended] {
				t.Fatalf("the first %d lines tell %d bytes, %v; want %d", i+1, len(told), e, ended)
			}
		}
	}
	if ended != len(all) {
		t.Errorf("%d of %d bytes", ended, len(all))
	}
}

func TestP20_4AnswersStay(t *testing.T) {
	m := &made{17}
	for _, r := range rights() {
		for range 3 {
			var lines []string
			for i := range 200 {
				lines = append(lines, factAct(m, 300).line, askAct(m, 300).line)
				if m.below(2) == 0 {
					lines = append(lines, ingestAct(1+m.below(8)).line)
				}
				if m.below(6) == 0 {
					lines = append(lines, markAct(m, 1+i).line)
				}
			}
			want := run(t, r, lines...)
			for _, often := range []int{1, 2, 9} {
				var more []string
				var places []int
				for _, line := range lines {
					for m.below(often) == 0 && m.below(3) > 0 {
						more = append(more, keepAct(m).line)
					}
					places, more = append(places, len(more)), append(more, line)
				}
				told := run(t, r, more...)
				for i, at := range places {
					if told[at] != want[i] {
						t.Fatalf("%q: %q; want %q", lines[i], told[at], want[i])
					}
				}
			}
		}
	}
}
