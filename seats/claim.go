package seats

// The rules go by the names of those who thought of them.
const (
	adams = 1 + iota
	hill
	webster
	jefferson
)

// claim is a party's claim to the next seat, as a fraction; over 0 it is more than any other. Its numbers have 64 bits on any machine, since squares of votes are among them.
type claim struct{ up, down int64 }

// claimOf is the claim of a party with so many votes that has so many seats.
func claimOf(rule, votes, seats int) claim {
	v, s := int64(votes), int64(seats)
	switch rule {
	case adams:
		return claim{v, s}
	case hill:
		// The claim's square: a root need not be a fraction, and squares stand in the same order.
		return claim{v * v, s * (s + 1)}
	case webster:
		return claim{2 * v, 2*s + 1}
	}
	return claim{v, s + 1}
}

// above says whether a claim is more than another one, where both parties have votes.
func (a claim) above(b claim) bool {
	if a.down == 0 && b.down == 0 {
		return a.up > b.up
	}
	return a.up*b.down > b.up*a.down
}

// next is the party that gets the next seat: of those with votes the first one with the greatest claim.
func next(rule int, votes, seats []int) int {
	best, most := 0, claim{0, 1}
	for i, v := range votes {
		if v == 0 {
			continue
		}
		if c := claimOf(rule, v, seats[i]); c.above(most) {
			best, most = i, c
		}
	}
	return best
}
