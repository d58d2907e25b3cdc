package desk

import (
	"iter"
	"strings"

	"rickyard/api"
	"rickyard/wide"
)

// bound is what a number's digits are below, with a minus ahead of them or not.
const bound = 1 << 62

// need is what a line needs behind its first word: dimensions, if it needs them, then numbers.
type need struct {
	word    string
	dims    bool
	numbers int
}

var needs = [...]need{
	{word: "fact", dims: true, numbers: 2},
	{word: "ingest", numbers: 1},
	{word: "sync"},
	{word: "flush"},
	{word: "step"},
	{word: "mark", numbers: 1},
	{word: "open"},
	{word: "get", dims: true, numbers: 1},
	{word: "scan", dims: true, numbers: 2},
	{word: "rollup", numbers: 3},
	{word: "runs"},
}

// line is what a line says.
type line struct {
	word    string
	dims    []string
	numbers [3]int64 // as many as the most that a line needs
}

// lines is the lines of a script, without the bytes that end them.
func lines(script string) iter.Seq[string] {
	return func(yield func(string) bool) {
		for rest := script; rest != ""; {
			text, behind, _ := strings.Cut(rest, "\n")
			if !yield(text) {
				return
			}
			rest = behind
		}
	}
}

// read reads a line. Where there are more blanks than one between two words, a word is empty, which is neither a first word, nor dimensions, nor a number.
func read(text string) (line, api.Errno) {
	words := strings.Split(text, " ")
	for _, n := range needs {
		if n.word == words[0] {
			return n.read(words[1:])
		}
	}
	return line{}, api.ErrLine
}

// read reads the words behind the first one of a line.
func (n need) read(words []string) (line, api.Errno) {
	out := line{word: n.word}
	if n.dims && len(words) > 0 {
		dims, e := Dims(words[0])
		if e != api.OK {
			return line{}, e
		}
		out.dims, words = dims, words[1:]
	}
	if len(words) != n.numbers {
		return line{}, api.ErrLine
	}
	for i, word := range words {
		v, ok := number(word)
		if !ok {
			return line{}, api.ErrLine
		}
		out.numbers[i] = v
	}
	return out, api.OK
}

// number reads a number.
func number(word string) (int64, bool) {
	x, e := wide.Parse(word)
	if e != api.OK || wide.Cmp(x, wide.Of(-bound)) <= 0 || wide.Cmp(x, wide.Of(bound)) >= 0 {
		return 0, false
	}
	return int64(x.Lo), true // two's complement: the upper digits are all the sign's
}
