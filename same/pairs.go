package same

// pair is two things that belong together.
type pair[A, B comparable] struct {
	a A
	b B
}

// pairs is a set of pairs, each with a number: as many as were in the set ahead of it.
type pairs[A, B comparable] struct{ numbers map[pair[A, B]]int }

// put answers the number of a and b, which are in the set from then on, and whether they are new there.
func (p *pairs[A, B]) put(a A, b B) (number int, isNew bool) {
	both := pair[A, B]{a, b}
	if number, known := p.numbers[both]; known {
		return number, false
	}
	if p.numbers == nil {
		p.numbers = map[pair[A, B]]int{}
	}
	number = len(p.numbers)
	p.numbers[both] = number
	return number, true
}
