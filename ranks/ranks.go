// Package ranks: two sides, and whom each one likes, as texts: see the document's chapter.
package ranks

import (
	"slices"
	"strconv"
	"strings"

	"agora/api"
	"agora/orders"
)

// May says whether two sides may be.
func May(p api.Pairing) api.Errno {
	if len(p.Left) > api.MaxSide || len(p.Right) > api.MaxSide {
		return api.ErrLimit
	}
	all := slices.Concat(p.Left, p.Right)
	for i, a := range all {
		others := len(p.Right)
		if i >= len(p.Left) {
			others = len(p.Left)
		}
		if e := mayAgent(a, all[:i], others); e != api.OK {
			return e
		}
	}
	return api.OK
}

func mayAgent(a api.Agent, ahead []api.Agent, others int) api.Errno {
	switch {
	case !isName(a.Name):
		return api.ErrForm
	case place(ahead, a.Name) >= 0:
		return api.ErrDouble
	case a.Room < 1 || a.Room > api.MaxRoom:
		return api.ErrValue
	}
	return orders.MaySome(a.Likes, others)
}

// Rank is how much an agent likes another one: 0 the best; one that it does not like: -1.
func Rank(a api.Agent, other int) int { return slices.Index(a.Likes, other) }

// Print writes two sides.
func Print(p api.Pairing) (string, api.Errno) {
	if e := May(p); e != api.OK {
		return "", e
	}
	var b strings.Builder
	printSide(&b, wordLeft, p.Left, p.Right)
	printSide(&b, wordRight, p.Right, p.Left)
	return b.String(), api.OK
}

func printSide(b *strings.Builder, word string, side, others []api.Agent) {
	for _, a := range side {
		b.WriteString(word + " " + a.Name)
		if a.Room != 1 {
			b.WriteString(" " + strconv.Itoa(a.Room))
		}
		b.WriteString(" " + wordLikes)
		for _, k := range a.Likes {
			b.WriteString(" " + others[k].Name)
		}
		b.WriteString("\n")
	}
}

// isName goes by bytes: no letter beyond a to z may stand in a name.
func isName(s string) bool {
	if s == "" || len(s) > api.MaxName || s == wordLeft || s == wordRight {
		return false
	}
	for i := range len(s) {
		letter := s[i] >= 'a' && s[i] <= 'z'
		if !letter && (i == 0 || s[i] != '_' && !isDigit(s[i])) {
			return false
		}
	}
	return true
}

func isDigit(c byte) bool { return c >= '0' && c <= '9' }

func place(side []api.Agent, name string) int {
	return slices.IndexFunc(side, func(a api.Agent) bool { return a.Name == name })
}
