package ranks

import (
	"strconv"
	"strings"

	"agora/api"
)

// The words of a line that are not names.
const (
	wordLeft  = "left"
	wordRight = "right"
	wordLikes = ":"
)

// giveUp is what the reader panics with: a type of its own, so that no other panic is taken for it.
type giveUp struct{ why api.Errno }

func need(ok bool, why api.Errno) {
	if !ok {
		panic(giveUp{why})
	}
}

// reader holds what the lines have said so far, the left side first.
type reader struct {
	sides [2][]api.Agent
	lines []line
}

// line keeps whom one likes as names: theirs may be the lines behind it.
type line struct {
	side, place int
	likes       []string
}

// Parse reads two sides.
func Parse(text string) (p api.Pairing, e api.Errno) {
	defer func() {
		thrown := recover()
		if thrown == nil {
			return
		}
		g, ours := thrown.(giveUp)
		if !ours {
			panic(thrown)
		}
		e = g.why
	}()
	need(len(text) <= api.MaxText, api.ErrLimit)
	var r reader
	for _, l := range strings.Split(text, "\n") {
		if w := words(l); len(w) > 0 && !strings.HasPrefix(w[0], "#") {
			r.take(w)
		}
	}
	for _, l := range r.lines {
		r.settle(l)
	}
	return api.Pairing{Left: r.sides[0], Right: r.sides[1]}, api.OK
}

// words cuts at blanks and tabs alone: other space, such as a carriage return, is part of a word.
func words(line string) []string {
	return strings.FieldsFunc(line, func(r rune) bool { return r == ' ' || r == '\t' })
}

// take reads a line but for who is meant by the names behind the colon.
func (r *reader) take(words []string) {
	need(words[0] == wordLeft || words[0] == wordRight, api.ErrWord)
	side := 0
	if words[0] == wordRight {
		side = 1
	}
	need(len(words) > 1, api.ErrShort)
	name := words[1]
	need(isName(name), api.ErrWord)
	need(place(r.sides[0], name) < 0 && place(r.sides[1], name) < 0, api.ErrDouble)
	need(len(r.sides[side]) < api.MaxSide, api.ErrLimit)
	room, rest := takeRoom(words[2:])
	likes := takeLikes(rest)
	r.lines = append(r.lines, line{side, len(r.sides[side]), likes})
	// A piece of the text would keep all of it in memory, and an answer shares none with what was handed in.
	r.sides[side] = append(r.sides[side], api.Agent{Name: strings.Clone(name), Room: room})
}

func takeRoom(words []string) (room int, rest []string) {
	if len(words) == 0 || words[0] == wordLikes {
		return 1, words
	}
	need(isNumber(words[0]), api.ErrWord)
	n, err := strconv.Atoi(words[0])
	need(err == nil && n >= 1 && n <= api.MaxRoom, api.ErrValue)
	return n, words[1:]
}

func isNumber(s string) bool {
	for i := range len(s) {
		if !isDigit(s[i]) {
			return false
		}
	}
	return len(s) == 1 || s[0] != '0'
}

func takeLikes(words []string) []string {
	need(len(words) > 0, api.ErrShort)
	need(words[0] == wordLikes, api.ErrWord)
	for _, w := range words[1:] {
		need(isName(w), api.ErrWord)
	}
	return words[1:]
}

// settle finds whom a line's names mean, now that all are there.
func (r *reader) settle(l line) {
	a := &r.sides[l.side][l.place]
	for _, name := range l.likes {
		k := place(r.sides[1-l.side], name)
		need(k >= 0, api.ErrName)
		need(Rank(*a, k) < 0, api.ErrDouble)
		a.Likes = append(a.Likes, k)
	}
}
