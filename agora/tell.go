package agora

import (
	"strconv"
	"strings"

	"agora/api"
)

// tell makes a line of words.
func tell(words ...string) string { return strings.Join(words, " ") + "\n" }

// each makes a list a list of words.
func each[T any](l []T, word func(T) string) []string {
	var words []string
	for _, x := range l {
		words = append(words, word(x))
	}
	return words
}

// verdict tells whether something was laid down, or why it wasn't.
func verdict(e api.Errno) string {
	if e != api.OK {
		return tell("error", strconv.Itoa(int(e)))
	}
	return tell("ok")
}

// either tells one of two words.
func either(ok bool, yes, no string) string {
	if ok {
		return tell(yes)
	}
	return tell(no)
}

// whole tells whole numbers, beside what is said of them.
func whole(l []int, e api.Errno) (string, api.Errno) { return tell(each(l, strconv.Itoa)...), e }

// fractions tells fractions, beside what is said of them.
func fractions(l []api.Q, e api.Errno) (string, api.Errno) { return tell(each(l, fraction)...), e }

func fraction(q api.Q) string { return string(q) }

// pair tells a pair of moves.
func pair(p [2]int) string { return strconv.Itoa(p[0]) + "-" + strconv.Itoa(p[1]) }

// piece tells a piece of a cake.
func piece(p [2]api.Q) string { return fraction(p[0]) + ".." + fraction(p[1]) }
