package run

import (
	"math"
	"math/big"
	"slices"

	"ringdown/api"
)

// The definitions of the chapter once more, and those of lower layers that it takes, as they are written, with numbers of any size.

func modelWatcher(p api.Plan, t int) string {
	for _, d := range p.Duties {
		if d.From <= t && t < d.To {
			return d.Who
		}
	}
	return "nobody"
}

func lies(l []api.Segment, t int) bool {
	for _, s := range l {
		if s.From <= t && t < s.To {
			return true
		}
	}
	return false
}

func modelIsQuiet(p api.Plan, detector, t int) bool {
	isHeld := lies(p.Work, t)
	for _, v := range p.Vetoes[detector] {
		isHeld = isHeld || lies(v.Segments, t)
	}
	return !isHeld
}

func modelQuiet(p api.Plan, detector int) []bool {
	var l []bool
	for t := range p.Data[detector] {
		l = append(l, modelIsQuiet(p, detector, t))
	}
	return l
}

func modelIsReady(p api.Plan, detector, t, length int) bool {
	if t+length > len(p.Data[detector]) {
		return false
	}
	for s := t; s <= t+length-1; s++ {
		if !modelIsQuiet(p, detector, s) {
			return false
		}
	}
	return true
}

func modelReady(p api.Plan, detector, length int) []int {
	var l []int
	for t := range p.Data[detector] {
		if modelIsReady(p, detector, t, length) {
			l = append(l, t)
		}
	}
	return l
}

func modelDuty(p api.Plan) []api.Tally {
	l := make([]api.Tally, 3)
	for t := range p.Data[0] {
		one, other := modelIsQuiet(p, 0, t), modelIsQuiet(p, 1, t)
		for i, isSuch := range []bool{one, other, one && other} {
			l[i].Of++
			if isSuch {
				l[i].N++
			}
		}
	}
	return l
}

// modelWave takes the table from the sine that it is rounded from.
func modelWave(length int, c api.Chirp) []int {
	var w []int
	for t := range length {
		phase := (c.P*t + c.Q*t*t) % 64
		w = append(w, int(math.Round(127*math.Sin(2*math.Pi*float64(phase)/64))))
	}
	return w
}

func whole(n int) *big.Rat { return new(big.Rat).SetInt64(int64(n)) }

func product(a, b []int) *big.Rat {
	sum := 0
	for i, n := range a {
		sum += n * b[i]
	}
	return whole(sum)
}

func modelNorm(w []int) int { return int(product(w, w).Num().Int64()) }

// share is the square of a number, divided by another one.
func share(out, norm *big.Rat) *big.Rat {
	square := new(big.Rat).Mul(out, out)
	return square.Quo(square, norm)
}

// modelHit is a hit with what is asked of it.
type modelHit struct {
	time, chirp   int
	loud, misfit  *big.Rat
	isReady, isIn bool
}

func modelMisfit(w, data []int, parts int) *big.Rat {
	sum := share(product(w, data), product(w, w))
	sum.Neg(sum)
	size := len(w) / parts
	for at := 0; at < len(w); at += size {
		piece, under := w[at:at+size], data[at:at+size]
		if norm := product(piece, piece); norm.Sign() > 0 {
			sum.Add(sum, share(product(piece, under), norm))
		}
	}
	return sum
}

// modelHits are all hits, by time and chirp.
func modelHits(p api.Plan, r api.Recipe, detector int) []modelHit {
	var l []modelHit
	data := p.Data[detector]
	least := whole(r.Floor * r.Variance)
	for t := 0; t+r.Length <= len(data); t++ {
		for i, c := range r.Bank {
			w, under := modelWave(r.Length, c), data[t:t+r.Length]
			out := product(w, under)
			loud := share(out, product(w, w))
			if out.Sign() > 0 && loud.Cmp(least) >= 0 {
				l = append(l, modelHit{time: t, chirp: i, loud: loud, misfit: modelMisfit(w, under, r.Parts), isReady: modelIsReady(p, detector, t, r.Length)})
			}
		}
	}
	return l
}

// inWindows marks the hits in windows.
func inWindows(l []modelHit, window int) {
	isLeft := slices.Repeat([]bool{true}, len(l))
	for {
		// The first one is louder than the others of the same loudness, as they are in order.
		best := -1
		for i, h := range l {
			if isLeft[i] && (best < 0 || h.loud.Cmp(l[best].loud) > 0) {
				best = i
			}
		}
		if best < 0 {
			return
		}
		l[best].isIn = true
		for i, h := range l {
			if distance := h.time - l[best].time; -window < distance && distance < window {
				isLeft[i] = false
			}
		}
	}
}

func modelTriggers(p api.Plan, r api.Recipe, detector int) []api.Trigger {
	hits := modelHits(p, r, detector)
	inWindows(hits, r.Window)
	var l []api.Trigger
	for _, h := range hits {
		if h.isIn && h.isReady && h.misfit.Cmp(whole(r.Misfit)) <= 0 {
			down := new(big.Int).Quo(h.loud.Num(), h.loud.Denom())
			l = append(l, api.Trigger{Time: h.time, Loud: int(down.Int64()), Template: h.chirp})
		}
	}
	return l
}

// isNear says that two times on a ring are near.
func isNear(s, t, samples, near int) bool {
	n := s - t
	if n < 0 {
		n = -n
	}
	return n <= near || samples-n <= near
}

func modelStatistics(p api.Plan, r api.Recipe) []int {
	a, b, samples := modelTriggers(p, r, 0), modelTriggers(p, r, 1), len(p.Data[0])
	var l []int
	for d := 0; d < samples; d += r.Step {
		loudest := -1
		for _, x := range a {
			for _, y := range b {
				if x.Template == y.Template && isNear(x.Time, (y.Time+d)%samples, samples, r.Near) {
					loudest = max(loudest, x.Loud+y.Loud)
				}
			}
		}
		l = append(l, loudest)
	}
	return l
}

func modelCatalogue(p api.Plan, r api.Recipe) []api.Entry {
	var l []api.Entry
	statistics := modelStatistics(p, r)
	for _, x := range modelTriggers(p, r, 0) {
		for _, y := range modelTriggers(p, r, 1) {
			if x.Template != y.Template || !isNear(x.Time, y.Time, len(p.Data[0]), r.Near) {
				continue
			}
			n := 0
			for _, loud := range statistics {
				if loud >= x.Loud+y.Loud {
					n++
				}
			}
			if n <= r.Limit {
				l = append(l, api.Entry{A: x.Time, B: y.Time, Template: x.Template, Loud: x.Loud + y.Loud, Chance: chanceOf(n, len(statistics))})
			}
		}
	}
	return l
}

func modelNumbers(p api.Plan, r api.Recipe) []int {
	l := list(len(p.Data[0]), len(p.Duties))
	text := func(s string) {
		l = append(l, len(s))
		for i := range len(s) {
			l = append(l, int(s[i]))
		}
	}
	for _, d := range p.Duties {
		text(d.Who)
		l = append(l, d.From, d.To)
	}
	l = append(l, len(p.Work))
	for _, s := range p.Work {
		l = append(l, s.From, s.To)
	}
	for detector := range 2 {
		l = append(l, len(p.Vetoes[detector]))
		for _, v := range p.Vetoes[detector] {
			text(v.Name)
			l = append(l, len(v.Segments))
			for _, s := range v.Segments {
				l = append(l, s.From, s.To)
			}
		}
		l = append(l, p.Data[detector]...)
	}
	l = append(l, r.Version, r.Length, len(r.Bank))
	for _, c := range r.Bank {
		l = append(l, c.P, c.Q)
	}
	return append(l, r.Variance, r.Floor, r.Window, r.Parts, r.Misfit, r.Near, r.Step, r.Limit)
}

// modelStamp is that of a plan and a recipe, valid or not.
func modelStamp(p api.Plan, r api.Recipe) int {
	stamp, ring := big.NewInt(1), big.NewInt(2147483647)
	for _, n := range modelNumbers(p, r) {
		if n > 1<<31-1 {
			n %= 2147483647
		}
		stamp.Mul(stamp, big.NewInt(69621))
		stamp.Add(stamp, big.NewInt(int64(n)))
		stamp.Add(stamp, big.NewInt(1<<31))
		stamp.Mod(stamp, ring)
	}
	return int(stamp.Int64())
}

// modelDraw is x(i), by a power of the factor.
func modelDraw(seed, i int) int {
	ring := big.NewInt(2147483647)
	x := new(big.Int).Exp(big.NewInt(69621), big.NewInt(int64(i)), ring)
	x.Mul(x, big.NewInt(int64(seed)+1))
	return int(x.Mod(x, ring).Int64())
}

func modelNoise(seed, n, m int) []int {
	var l []int
	for i := 1; i <= n; i++ {
		l = append(l, modelDraw(seed, i)%(2*m+1)-m)
	}
	return l
}

// modelChallenge looks at each time for the first wave there.
func modelChallenge(seed, samples, length, many int) []api.Wave {
	var l []api.Wave
	for at := 0; at <= samples-length; at++ {
		for i := range many {
			four := list(modelDraw(seed, 4*i+1), modelDraw(seed, 4*i+2), modelDraw(seed, 4*i+3), modelDraw(seed, 4*i+4))
			w := modelWave(length, api.Chirp{P: four[0] % 64, Q: four[1] % 64})
			if modelNorm(w) > 0 && four[2]%(samples-length+1) == at {
				l = append(l, api.Wave{At: at, Gain: 1 + four[3]%16, Samples: w})
				break
			}
		}
	}
	return l
}

// modelWith is a plan with injections in a detector.
func modelWith(p api.Plan, detector int, waves []api.Wave) api.Plan {
	p = copied(p)
	for _, w := range waves {
		for i, n := range w.Samples {
			p.Data[detector][w.At+i] += w.Gain * n
		}
	}
	return p
}

// modelLess are the entries that others are not.
func modelLess(l, others []api.Entry) []api.Entry {
	var less []api.Entry
	for _, x := range l {
		if !slices.Contains(others, x) {
			less = append(less, x)
		}
	}
	return less
}
