package search

import (
	"math/big"
	"slices"

	"ringdown/api"
)

// The definitions of the chapter once more, as they are written.

func modelDistance(live, s, t int) int {
	n := s - t
	if n < 0 {
		n = -n
	}
	if live-n < n {
		return live - n
	}
	return n
}

func modelCoincide(a, b []api.Trigger, live, window int) []api.Pair {
	var l []api.Pair
	for i := range a {
		for k := range b {
			if a[i].Template == b[k].Template && modelDistance(live, a[i].Time, b[k].Time) <= window {
				l = append(l, api.Pair{A: i, B: k, Loud: a[i].Loud + b[k].Loud})
			}
		}
	}
	return l
}

func modelLoudest(a, b []api.Trigger, live, window int) int {
	most := -1
	for _, p := range modelCoincide(a, b, live, window) {
		if p.Loud > most {
			most = p.Loud
		}
	}
	return most
}

func modelSlide(b []api.Trigger, live, d int) []api.Trigger {
	l := slices.Clone(b)
	for i := range l {
		l[i].Time += d
		for l[i].Time >= live {
			l[i].Time -= live
		}
	}
	slices.SortFunc(l, func(a, b api.Trigger) int { return a.Time - b.Time })
	return l
}

func modelStatistics(a, b []api.Trigger, live, window, step int) []int {
	var l []int
	for d := 0; d < live; d += step {
		l = append(l, modelLoudest(a, modelSlide(b, live, d), live, window))
	}
	return l
}

func modelChance(statistics []int, x int) api.Chance {
	sorted := slices.Sorted(slices.Values(statistics))
	n := 0
	for n < len(sorted) && sorted[len(sorted)-1-n] >= x {
		n++
	}
	if n == 0 {
		n = 1
	}
	return api.Chance{N: n, Of: len(sorted)}
}

func modelCandidates(a, b []api.Trigger, live, window, step, limit int) []api.Candidate {
	var l []api.Candidate
	statistics := modelStatistics(a, b, live, window, step)
	for _, p := range modelCoincide(a, b, live, window) {
		if c := modelChance(statistics, p.Loud); c.N <= limit {
			l = append(l, api.Candidate{Pair: p, Chance: c})
		}
	}
	return l
}

func modelPower(x []int, from, window int) int {
	sum := 0
	for i := from; i < from+window; i++ {
		sum += x[i] * x[i]
	}
	return sum
}

// modelHot are the beginnings of all hot windows.
func modelHot(x []int, window, threshold int) []int {
	var l []int
	for t := 0; t+window <= len(x); t++ {
		if modelPower(x, t, window) >= threshold {
			l = append(l, t)
		}
	}
	return l
}

// modelBursts gives each hot window a name, and all that belong together the same one, until nothing changes.
func modelBursts(x []int, window, threshold int) []api.Burst {
	hot := modelHot(x, window, threshold)
	names := slices.Clone(hot)
	for isChanged := true; isChanged; {
		isChanged = false
		for i, s := range hot {
			for k, t := range hot {
				// No sample lies between them.
				if s <= t && t <= s+window && names[i] != names[k] {
					names[i], names[k] = min(names[i], names[k]), min(names[i], names[k])
					isChanged = true
				}
			}
		}
	}
	var l []api.Burst
	for i, t := range hot {
		if names[i] == t {
			l = append(l, api.Burst{From: t})
		}
		// The name of a burst is where it begins.
		at := slices.IndexFunc(l, func(b api.Burst) bool { return b.From == names[i] })
		l[at].To = max(l[at].To, t+window)
		l[at].Peak = max(l[at].Peak, modelPower(x, t, window))
	}
	return l
}

func modelFold(x []int, p int) []int {
	m := len(x) / p
	var l []int
	for i := range p {
		sum := 0
		for k := range m {
			sum += x[i+k*p]
		}
		l = append(l, sum)
	}
	return l
}

func modelStrength(x []int, p int) *big.Rat {
	sum := new(big.Int)
	for _, n := range modelFold(x, p) {
		sum.Add(sum, new(big.Int).Mul(big.NewInt(int64(n)), big.NewInt(int64(n))))
	}
	return new(big.Rat).SetFrac(sum, big.NewInt(int64(len(x)/p)))
}

func modelPeriod(x []int, from, to int) int {
	best := from
	for p := from; p <= to; p++ {
		if modelStrength(x, p).Cmp(modelStrength(x, best)) > 0 {
			best = p
		}
	}
	return best
}

// modelInject looks at each sample for the injections that have one there.
func modelInject(x []int, l []api.Wave) []int {
	var sum []int
	for t, n := range x {
		for _, w := range l {
			if w.At <= t && t < w.At+len(w.Samples) {
				n += w.Gain * w.Samples[t-w.At]
			}
		}
		sum = append(sum, n)
	}
	return sum
}

func modelNumbers(l []api.Wave) []int {
	var all []int
	for _, w := range l {
		all = append(all, w.At, w.Gain, len(w.Samples))
		all = append(all, w.Samples...)
	}
	return all
}

func modelEnvelope(l []api.Wave, key int) api.Envelope {
	c := big.NewInt(int64(key) + 1)
	for _, n := range modelNumbers(l) {
		c.Mul(c, big.NewInt(48271))
		c.Add(c, big.NewInt(int64(n)))
		c.Add(c, big.NewInt(65536))
		c.Mod(c, big.NewInt(2147483647))
	}
	return api.Envelope{Many: len(l), Code: int(c.Int64())}
}

func modelFound(l []api.Trigger, injections []api.Wave, window int) []bool {
	var found []bool
	for _, w := range injections {
		isFound := false
		for _, a := range l {
			isFound = isFound || a.Time-w.At <= window && w.At-a.Time <= window
		}
		found = append(found, isFound)
	}
	return found
}

func modelIsRecord(x []int) bool {
	for _, n := range x {
		if n < -16384 || n > 16384 {
			return false
		}
	}
	return len(x) <= 1024
}
