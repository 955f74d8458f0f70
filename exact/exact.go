// Package exact: fractions as texts: see the document's chapter.
package exact

import (
	"math/big"
	"strconv"
	"strings"

	"agora/api"
)

// Norm is the fraction in lowest terms.
func Norm(q api.Q) api.Q { return tell(read(q)) }

// Of is a whole number.
func Of(n int) api.Q { return api.Q(strconv.Itoa(n)) }

// Add is the sum.
func Add(a, b api.Q) api.Q { return tell(new(big.Rat).Add(read(a), read(b))) }

// Sub is the difference.
func Sub(a, b api.Q) api.Q { return tell(new(big.Rat).Sub(read(a), read(b))) }

// Mul is the product.
func Mul(a, b api.Q) api.Q { return tell(new(big.Rat).Mul(read(a), read(b))) }

// Div is the quotient.
func Div(a, b api.Q) (api.Q, api.Errno) {
	by := read(b)
	if by.Sign() == 0 {
		return "", api.ErrZero
	}
	return tell(new(big.Rat).Quo(read(a), by)), api.OK
}

// Cmp is -1, 0 or 1: less, the same, greater.
func Cmp(a, b api.Q) int { return read(a).Cmp(read(b)) }

// Sum is that of all.
func Sum(l []api.Q) api.Q {
	all := new(big.Rat)
	for _, q := range l {
		all.Add(all, read(q))
	}
	return tell(all)
}

// Dot is the sum of the products, as far as both lists go.
func Dot(a, b []api.Q) api.Q {
	all, one := new(big.Rat), new(big.Rat)
	for i := range min(len(a), len(b)) {
		all.Add(all, one.Mul(read(a[i]), read(b[i])))
	}
	return tell(all)
}

// read takes only the one form of a fraction: big.Rat's own reader knows many more (1.5, 0x10, +1, 1_0), which count as 0 here.
func read(q api.Q) *big.Rat {
	text, below := strings.CutPrefix(string(q), "-")
	up, down, cut := strings.Cut(text, "/")
	if !cut {
		down = "1"
	}
	n, okUp := whole(up)
	d, okDown := whole(down)
	if !okUp || !okDown || d.Sign() == 0 {
		return new(big.Rat)
	}
	if below {
		n.Neg(n)
	}
	return new(big.Rat).SetFrac(n, d)
}

// whole looks at the digits itself, since big.Int's reader lets a sign stand ahead of them.
func whole(digits string) (*big.Int, bool) {
	for i := range len(digits) {
		if digits[i] < '0' || digits[i] > '9' {
			return nil, false
		}
	}
	return new(big.Int).SetString(digits, 10)
}

func tell(r *big.Rat) api.Q { return api.Q(r.RatString()) }
