package bank

import (
	"math/big"
	"slices"

	"ringdown/api"
)

// The definitions of the chapter once more, as they are written, with fractions of any size.

func modelTable() []int {
	return list(
		0, 12, 25, 37, 49, 60, 71, 81, 90, 98, 106, 112, 117, 122, 125, 126,
		127, 126, 125, 122, 117, 112, 106, 98, 90, 81, 71, 60, 49, 37, 25, 12,
		0, -12, -25, -37, -49, -60, -71, -81, -90, -98, -106, -112, -117, -122, -125, -126,
		-127, -126, -125, -122, -117, -112, -106, -98, -90, -81, -71, -60, -49, -37, -25, -12,
	)
}

// silent are the chirps whose samples are 0 all the time, of whatever length.
func silent() []api.Chirp {
	return chirps(0, 0, 0, 32, 16, 16, 16, 48, 32, 0, 32, 32, 48, 16, 48, 48)
}

// modelWave has a phase to which more and more is added from sample to sample.
func modelWave(length int, c api.Chirp) []int {
	var w []int
	phase, step := 0, c.P+c.Q
	for range length {
		w = append(w, modelTable()[phase%64])
		phase += step
		step += 2 * c.Q
	}
	return w
}

func modelNorm(w []int) int {
	sum := 0
	for _, n := range w {
		sum += n * n
	}
	return sum
}

func modelReach(w []int) int {
	sum := 0
	for _, n := range w {
		if n < 0 {
			n = -n
		}
		sum += n
	}
	return sum
}

func modelOverlap(a, b []int, shift int) int {
	sum := 0
	for t, n := range a {
		if i := t + shift; 0 <= i && i < len(b) {
			sum += n * b[i]
		}
	}
	return sum
}

func whole(n int) *big.Rat { return new(big.Rat).SetInt64(int64(n)) }

func times(a, b *big.Rat) *big.Rat { return new(big.Rat).Mul(a, b) }

func over(a, b *big.Rat) *big.Rat { return new(big.Rat).Quo(a, b) }

func square(n int) *big.Rat { return times(whole(n), whole(n)) }

func norms(a, b []int) *big.Rat { return times(whole(modelNorm(a)), whole(modelNorm(b))) }

func modelMatch(a, b []int) *big.Rat {
	greatest := 0
	for shift := -len(a) + 1; shift < len(a); shift++ {
		greatest = max(greatest, modelOverlap(a, b, shift))
	}
	return over(square(greatest), norms(a, b))
}

func modelReaches(a, b []int, shift int, least *big.Rat) bool {
	n := modelOverlap(a, b, shift)
	return n > 0 && square(n).Cmp(times(least, norms(a, b))) >= 0
}

func modelPoints(f api.Family) []api.Chirp {
	var l []api.Chirp
	for p := f.FromP; p <= f.ToP; p++ {
		for q := f.FromQ; q <= f.ToQ; q++ {
			if !slices.Contains(silent(), chirp(p, q)) {
				l = append(l, chirp(p, q))
			}
		}
	}
	return l
}

// modelFits are all fits of a point, in the order in which one of them is taken for a proof.
func modelFits(length int, point api.Chirp, l []api.Chirp, least *big.Rat) []api.Fit {
	var found []api.Fit
	a := modelWave(length, point)
	for i, c := range l {
		b := modelWave(length, c)
		for shift := -length + 1; shift < length; shift++ {
			if modelReaches(a, b, shift, least) {
				found = append(found, api.Fit{Chirp: i, Shift: shift})
			}
		}
	}
	return found
}

func modelMisses(f api.Family, l []api.Chirp, least api.Num) []int {
	var missed []int
	for i, p := range modelPoints(f) {
		if len(modelFits(f.Length, p, l, ratOf(least))) == 0 {
			missed = append(missed, i)
		}
	}
	return missed
}

func modelWorst(f api.Family, l []api.Chirp) (worst *big.Rat) {
	for _, p := range modelPoints(f) {
		greatest := new(big.Rat)
		for _, c := range l {
			if m := modelMatch(modelWave(f.Length, p), modelWave(f.Length, c)); m.Cmp(greatest) > 0 {
				greatest = m
			}
		}
		if worst == nil || greatest.Cmp(worst) < 0 {
			worst = greatest
		}
	}
	return worst
}

// modelProof is none if a point is missed.
func modelProof(f api.Family, l []api.Chirp, least api.Num) (proof []api.Fit, ok bool) {
	for _, p := range modelPoints(f) {
		all := modelFits(f.Length, p, l, ratOf(least))
		if len(all) == 0 {
			return nil, false
		}
		proof = append(proof, all[0])
	}
	return proof, true
}

func modelProves(f api.Family, l []api.Chirp, least api.Num, proof []api.Fit) bool {
	points := modelPoints(f)
	if len(points) != len(proof) {
		return false
	}
	for i, p := range points {
		if !slices.Contains(modelFits(f.Length, p, l, ratOf(least)), proof[i]) {
			return false
		}
	}
	return true
}

// modelReached says for each point which other ones it reaches.
func modelReached(f api.Family, least api.Num) (points []api.Chirp, reached [][]bool) {
	points = modelPoints(f)
	for _, b := range points {
		var row []bool
		for _, a := range points {
			row = append(row, len(modelFits(f.Length, a, []api.Chirp{b}, ratOf(least))) > 0)
		}
		reached = append(reached, row)
	}
	return points, reached
}

// modelBuild counts anew, for each point, what it reaches; it is none if it has more chirps than a bank.
func modelBuild(f api.Family, least api.Num) (l []api.Chirp, ok bool) {
	points, reached := modelReached(f, least)
	isMissed := slices.Repeat([]bool{true}, len(points))
	for slices.Contains(isMissed, true) {
		best, most := 0, 0
		for i := range points {
			many := 0
			for k := range points {
				if isMissed[k] && reached[i][k] {
					many++
				}
			}
			if many > most {
				best, most = i, many
			}
		}
		for k := range points {
			isMissed[k] = isMissed[k] && !reached[best][k]
		}
		l = append(l, points[best])
	}
	return l, len(l) <= 64
}

func modelOutput(w, data []int, t int) int {
	sum := 0
	for i, n := range w {
		sum += n * data[t+i]
	}
	return sum
}

func modelOutputs(length int, c api.Chirp, data []int) []int {
	var l []int
	for t := 0; t <= len(data)-length; t++ {
		l = append(l, modelOutput(modelWave(length, c), data, t))
	}
	return l
}

func modelHits(length int, l []api.Chirp, data []int, variance, floor int) []api.Hit {
	var found []api.Hit
	for t := 0; t <= len(data)-length; t++ {
		for i, c := range l {
			w := modelWave(length, c)
			out := modelOutput(w, data, t)
			least := times(times(whole(floor), whole(variance)), whole(modelNorm(w)))
			if out > 0 && square(out).Cmp(least) >= 0 {
				found = append(found, api.Hit{Time: t, Chirp: i, Out: out})
			}
		}
	}
	return found
}

func modelLouder(length int, l []api.Chirp, a, b api.Hit) bool {
	of := func(h api.Hit) *big.Rat {
		return over(square(h.Out), whole(modelNorm(modelWave(length, l[h.Chirp]))))
	}
	switch of(a).Cmp(of(b)) {
	case 1:
		return true
	case -1:
		return false
	}
	if a.Time != b.Time {
		return a.Time < b.Time
	}
	return a.Chirp < b.Chirp
}

func isNear(a, b api.Hit, window int) bool {
	return a.Time-b.Time < window && b.Time-a.Time < window
}

// modelLoudest takes the loudest hit of those that are left, until there are none.
func modelLoudest(length int, l []api.Chirp, all []api.Hit, window int) []api.Hit {
	var chosen []api.Hit
	for left := slices.Clone(all); len(left) > 0; {
		best := left[0]
		for _, h := range left {
			if modelLouder(length, l, h, best) {
				best = h
			}
		}
		chosen = append(chosen, best)
		left = slices.DeleteFunc(left, func(h api.Hit) bool { return isNear(h, best, window) })
	}
	slices.SortFunc(chosen, func(a, b api.Hit) int { return a.Time - b.Time })
	return chosen
}

func modelMisfit(length int, c api.Chirp, data []int, t, parts int) *big.Rat {
	w := modelWave(length, c)
	sum := new(big.Rat)
	size := length / parts
	for from := 0; from < length; from += size {
		piece := w[from : from+size]
		if norm := modelNorm(piece); norm > 0 {
			sum.Add(sum, over(square(modelOutput(piece, data, t+from)), whole(norm)))
		}
	}
	return sum.Sub(sum, over(square(modelOutput(w, data, t)), whole(modelNorm(w))))
}

func modelIsSure(w []int, amp, noise, variance, floor int) bool {
	n := amp*modelNorm(w) - noise*modelReach(w)
	return n > 0 && square(n).Cmp(times(times(whole(floor), whole(variance)), whole(modelNorm(w)))) >= 0
}
