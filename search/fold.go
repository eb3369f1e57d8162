package search

import "cmp"

// strength is that of a record folded at a period: the sum of the squares, and by what it is divided.
type strength struct{ squares, folds int }

// compare multiplies numbers of at most 2^48 with such of at most 2^10, so that no product is too great.
func (s strength) compare(t strength) int { return cmp.Compare(s.squares*t.folds, t.squares*s.folds) }

// fold returns the fold of a record at a period, and how many samples each number of it is the sum of.
func fold(x []int, period int) (sums []int, folds int) {
	folds = len(x) / period
	sums = make([]int, period)
	for i, n := range x[:folds*period] {
		sums[i%period] += n
	}
	return sums, folds
}

func strengthOf(x []int, period int) strength {
	sums, folds := fold(x, period)
	return strength{power(sums), folds}
}

func power(x []int) int {
	sum := 0
	for _, n := range x {
		sum += n * n
	}
	return sum
}

// strongest returns the period with the greatest strength, the least one of several.
func strongest(x []int, from, to int) int {
	best, greatest := 0, strength{-1, 1}
	bound := strength{power(x), 1}
looking:
	for p := from; p <= to; p++ {
		switch s := strengthOf(x, p); {
		case s.compare(bound) == 0:
			// No strength is greater than the power of the record.
			best = p
			break looking
		case s.compare(greatest) > 0:
			best, greatest = p, s
		}
	}
	return best
}
