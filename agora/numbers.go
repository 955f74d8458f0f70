package agora

import (
	"strconv"
	"strings"
)

// maxDigits is how many digits a number may have.
const maxDigits = 7

// rows reads lines as rows of numbers; false, if one is none.
func rows(lines []string) ([][]int, bool) {
	var all [][]int
	for _, line := range lines {
		l, ok := row(line)
		if !ok {
			return nil, false
		}
		all = append(all, l)
	}
	return all, true
}

// row reads a line of numbers. An empty line is a row of none: so goods can be none.
func row(line string) ([]int, bool) {
	if line == "" {
		return nil, true
	}
	return numbers(strings.Split(line, " "))
}

// numbers reads words as numbers; false, if one is none.
func numbers(words []string) ([]int, bool) {
	var l []int
	for _, word := range words {
		n, ok := number(word)
		if !ok {
			return nil, false
		}
		l = append(l, n)
	}
	return l, true
}

// number reads a word as a number, which can be written in one way only.
func number(word string) (int, bool) {
	digits := strings.TrimPrefix(word, "-")
	if digits == "" || len(digits) > maxDigits || strings.Trim(digits, "0123456789") != "" {
		return 0, false
	}
	if digits[0] == '0' && word != "0" {
		return 0, false
	}
	n, err := strconv.Atoi(word)
	return n, err == nil
}
