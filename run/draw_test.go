package run

import (
	"fmt"
	"math/rand"
	"slices"
	"testing"

	"ringdown/api"
)

// P11.4: noise, the chapter's example and compared with the definition.
func TestNoise(t *testing.T) {
	l, e := Noise(0, 3, 2)
	is(t, "Noise(0, 3, 2)", l, e, list(-1, 0, 2), api.OK)
	for _, seed := range list(0, 1, 2, 7, 1<<20, 1<<30-1, 1<<30) {
		for _, n := range list(0, 1, 2, 100, 512) {
			for _, m := range list(0, 1, 2, 63, 4095, 4096) {
				l, e := Noise(seed, n, m)
				is(t, fmt.Sprint("Noise ", seed, n, m), l, e, modelNoise(seed, n, m), api.OK)
			}
		}
	}
}

// P11.4: ErrRange of Noise.
func TestNoiseErrors(t *testing.T) {
	fails := func(seed, n, m int) {
		l, e := Noise(seed, n, m)
		is(t, fmt.Sprint("Noise ", seed, n, m), l, e, nil, api.ErrRange)
	}
	for _, n := range beyond(0, 1<<30) {
		fails(n, 3, 2)
	}
	for _, n := range append(beyond(0, 512), 513, 1<<30) {
		fails(0, n, 2)
	}
	for _, n := range append(beyond(0, 4096), 4097, 1<<30) {
		fails(0, 3, n)
		fails(0, 0, n)
	}
}

// P11.12: noise is never greater than its bound, and reaches it.
func TestNoiseBounds(t *testing.T) {
	random := rand.New(rand.NewSource(1))
	for range 300 {
		m := pick(random, 0, 1, 3, random.Intn(4097))
		l := must[[]int](t)(Noise(random.Intn(1<<30+1), 512, m))
		low, high := slices.Min(l), slices.Max(l)
		if low < -m || high > m || m < 10 && (low > -m || high < m) {
			t.Errorf("bound %d: from %d to %d", m, low, high)
		}
	}
}

// P11.4: challenges compared with the definition.
func TestChallenges(t *testing.T) {
	many, less := 0, 0
	check := func(seed, samples, length, k int) {
		l, e := Challenge(seed, samples, length, k)
		is(t, fmt.Sprint("Challenge ", seed, samples, length, k), l, e, modelChallenge(seed, samples, length, k), api.OK)
		many += k
		less += k - len(l)
	}
	random := rand.New(rand.NewSource(2))
	for range 400 {
		samples := 4 + random.Intn(pick(random, 1, 5, 30, 509))
		length := 4 + random.Intn(min(samples, 64)-3)
		check(random.Intn(1<<30+1), samples, length, random.Intn(pick(random, 3, 10, 65)))
	}
	if less < 100 || many-less < 1000 {
		t.Errorf("of %d waves %d are left out", many, less)
	}
	for _, seed := range list(0, 1, 1<<30) {
		for _, length := range list(4, 5, 63, 64) {
			for _, k := range list(0, 1, 64) {
				check(seed, 512, length, k)
				check(seed, length, length, k)
				check(seed, length+1, length, k)
			}
		}
	}
}

// seedWith is a seed whose first two waves are at the same time, of which one is kept: the first one, unless it is silent.
func seedWith(samples int, isFirst bool) int {
	for seed := 0; ; seed++ {
		first := modelNorm(modelWave(4, api.Chirp{P: modelDraw(seed, 1) % 64, Q: modelDraw(seed, 2) % 64}))
		isSame := modelDraw(seed, 3)%(samples-3) == modelDraw(seed, 7)%(samples-3)
		if (first > 0) == isFirst && isSame && len(modelChallenge(seed, samples, 4, 2)) == 1 {
			return seed
		}
	}
}

// P11.4: of waves at the same time the first one is kept that is not silent.
func TestWavesLeftOut(t *testing.T) {
	for i, isFirst := range []bool{true, false} {
		seed := seedWith(9, isFirst)
		l, e := Challenge(seed, 9, 4, 2)
		from := 4 * i
		want := api.Wave{At: modelDraw(seed, 3) % 6, Gain: modelDraw(seed, from+4)%16 + 1, Samples: modelWave(4, api.Chirp{P: modelDraw(seed, from+1) % 64, Q: modelDraw(seed, from+2) % 64})}
		is(t, fmt.Sprint("Challenge ", seed), l, e, []api.Wave{want}, api.OK)
	}
}

// P11.4: ErrRange of Challenge.
func TestChallengeErrors(t *testing.T) {
	fails := func(seed, samples, length, many int) {
		l, e := Challenge(seed, samples, length, many)
		is(t, fmt.Sprint("Challenge ", seed, samples, length, many), l, e, nil, api.ErrRange)
	}
	for _, n := range beyond(0, 1<<30) {
		fails(n, 9, 4, 2)
	}
	for _, n := range append(beyond(4, 512), 0, 1, 513, 1024) {
		fails(0, n, 4, 2)
		fails(0, n, 4, 0)
	}
	for _, n := range append(beyond(4, 64), 0, 1, 512) {
		fails(0, 512, n, 2)
		fails(0, 512, n, 0)
	}
	for _, n := range list(5, 6, 64, 65) {
		fails(0, n-1, n, 2)
	}
	for _, n := range append(beyond(0, 64), 1<<30) {
		fails(0, 9, 4, n)
	}
}

// inverse are the same waves with the opposite gains.
func inverse(l []api.Wave) []api.Wave {
	l = slices.Clone(l)
	for i := range l {
		l[i].Gain = -l[i].Gain
	}
	return l
}

// P11.4, P11.12: injections compared with the definition; taken out again they leave the samples as they were.
func TestInject(t *testing.T) {
	random := rand.New(rand.NewSource(3))
	fits := 0
	for range 500 {
		p, _ := randomRun(random)
		samples, detector := len(p.Data[0]), random.Intn(2)
		length := 4 + random.Intn(min(samples, 64)-3)
		waves := must[[]api.Wave](t)(Challenge(random.Intn(1<<30), samples, length, random.Intn(6)))
		want := modelWith(p, detector, waves)
		got, e := Inject(p, detector, waves)
		switch greatest := greatestOf(want.Data[detector]); {
		case greatest <= 4096:
			fits++
			is(t, "Inject", got, e, want, api.OK)
			again, e := Inject(got, detector, inverse(waves))
			is(t, "taken out", again, e, p, api.OK)
		case greatest <= 1<<14:
			is(t, "Inject", got, e, api.Plan{}, api.ErrPlan)
		default:
			is(t, "Inject", got, e, api.Plan{}, api.ErrRange)
		}
	}
	if fits < 100 {
		t.Errorf("only %d challenges fit", fits)
	}
}

func greatestOf(l []int) int { return max(slices.Max(l), -slices.Min(l)) }

func wave(at, gain int, samples ...int) api.Wave {
	return api.Wave{At: at, Gain: gain, Samples: samples}
}

// P11.4: the errors of injections, in their order.
func TestInjectErrors(t *testing.T) {
	p := with(examplePlan(), func(p *api.Plan) { p.Data[1][7] = 96 })
	for _, x := range []struct {
		what  string
		waves []api.Wave
		want  api.Errno
	}{
		{"before the beginning", []api.Wave{wave(-1, 1, 1)}, api.ErrWaves},
		{"behind the end", []api.Wave{wave(7, 1, 1, 1)}, api.ErrWaves},
		{"no samples", []api.Wave{wave(1, 1)}, api.ErrWaves},
		{"the same time", []api.Wave{wave(1, 1, 1), wave(1, 1, 1)}, api.ErrWaves},
		{"a great gain", []api.Wave{wave(1, 65, 1)}, api.ErrWaves},
		{"a great sample", []api.Wave{wave(1, 1, 257)}, api.ErrWaves},
		{"too many", slices.Repeat([]api.Wave{wave(1, 1, 1)}, 65), api.ErrWaves},
		{"wrong, and too great", []api.Wave{wave(7, 64, 256), wave(7, 1, 1)}, api.ErrWaves},
		{"no record", []api.Wave{wave(7, 64, 256)}, api.ErrRange},
		{"no record, downwards", []api.Wave{wave(6, -64, 256, 256), wave(7, -64, 2)}, api.ErrRange},
		{"just no record", []api.Wave{wave(6, 63, 0, 256), wave(7, 1, 161)}, api.ErrRange},
		{"just a record", []api.Wave{wave(6, 63, 0, 256), wave(7, 1, 160)}, api.ErrPlan},
		{"just no samples of a plan", []api.Wave{wave(6, 17, 241)}, api.ErrPlan},
		{"the same downwards", []api.Wave{wave(6, -17, 241)}, api.ErrPlan},
		{"just samples of a plan", []api.Wave{wave(6, 16, 256, 250)}, api.OK},
		{"the same downwards", []api.Wave{wave(6, -16, 256, -250)}, api.OK},
		{"too great only for a while", []api.Wave{wave(5, 20, 1, 250), wave(6, -20, 250)}, api.OK},
		{"none", nil, api.OK},
		{"also none", []api.Wave{}, api.OK},
	} {
		got, e := Inject(p, 1, x.waves)
		var want api.Plan
		if x.want == api.OK {
			want = modelWith(p, 1, x.waves)
		}
		is(t, x.what, got, e, want, x.want)
	}
}
