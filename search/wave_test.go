package search

import (
	"fmt"
	"math/rand"
	"slices"
	"testing"

	"ringdown/api"
)

// manyWaves are as many injections as there may be, one sample long.
func manyWaves(first int) []api.Wave {
	var l []api.Wave
	for i := range api.MaxWaves {
		l = append(l, wave(first+i, 1, 1))
	}
	return l
}

// validWaves are injections for a record of 100 samples.
func validWaves() [][]api.Wave {
	return [][]api.Wave{
		nil, {}, waves(wave(0, 0, 0)), waves(wave(99, 64, 256)), waves(wave(99, -64, -256)), waves(wave(98, 1, 1, 1)), waves(wave(36, 1, make([]int, 64)...)), waves(wave(0, 1, 1, 2, 3), wave(1, -1, 1, 2, 3)), waves(wave(5, 1, 1), wave(6, 1, 1), wave(99, 1, 1)),
		manyWaves(0), manyWaves(36),
	}
}

// wrongWaves are no injections for a record of 100 samples.
func wrongWaves() [][]api.Wave {
	l := [][]api.Wave{
		append(manyWaves(0), wave(70, 1, 1)), manyWaves(37), make([]api.Wave, 1000),
		waves(wave(0, 1)), waves(wave(0, 1, make([]int, 65)...)), waves(wave(0, 1, make([]int, 1000)...)), waves(wave(0, 1, 1), wave(1, 1)), waves(wave(0, 1), wave(1, 1, 1)),
		waves(wave(100, 1, 1)), waves(wave(99, 1, 1, 1)), waves(wave(37, 1, make([]int, 64)...)), waves(wave(0, 1, 1), wave(99, 1, 1, 1)), waves(wave(100, 1)), waves(wave(101, 1)),
		waves(wave(5, 1, 1), wave(5, 1, 1)), waves(wave(5, 1, 1), wave(4, 1, 1)), waves(wave(1, 1, 1), wave(3, 1, 1), wave(2, 1, 1)), waves(wave(0, 1, 1), wave(0, 2, 2)),
	}
	for _, n := range list(1<<31, 1<<32, 1<<62, 1<<63-1, 1<<63-2, -1<<63, -1<<63+1, -1, 1<<10) {
		l = append(l, waves(wave(n, 1, 1)), waves(wave(n, 1, make([]int, 64)...)), waves(wave(0, 1, 1), wave(n, 1, 1, 1)))
	}
	for _, n := range list(65, -65, 1<<32, 1<<63-1, -1<<63) {
		l = append(l, waves(wave(0, n, 1)), waves(wave(0, 1, 1), wave(1, n, 1)))
	}
	for _, n := range list(257, -257, 1<<32, 1<<63-1, -1<<63) {
		l = append(l, waves(wave(0, 1, n)), waves(wave(0, 0, 1, 2, n)), waves(wave(0, 1, 1), wave(1, 1, n, 0)))
	}
	return l
}

// P8.6: the example, injections that overlap, and records that are just possible.
func TestInject(t *testing.T) {
	most := 1 << 14
	for _, c := range []struct {
		x    []int
		w    []api.Wave
		want []int
		e    api.Errno
	}{
		{list(0, 0, 0, 0), waves(wave(1, 2, 1, 3)), list(0, 2, 6, 0), api.OK}, {list(1, -1, 2, 5), waves(wave(1, -2, 1, 3)), list(1, -3, -4, 5), api.OK}, {list(0, 0, 0, 0), waves(wave(2, 2, 1, 3)), list(0, 0, 2, 6), api.OK}, {list(0, 0, 0, 0), waves(wave(0, 1, 1, 2, 3), wave(1, 10, 1, 2, 3)), list(1, 12, 23, 30), api.OK}, {list(0, 0, 0, 0), waves(wave(0, 1, 1), wave(3, 64, -256)), list(1, 0, 0, -most), api.OK},
		{nil, nil, nil, api.OK}, {list(7, 8), nil, list(7, 8), api.OK}, {list(7), waves(wave(0, 0, 256)), list(7), api.OK}, {list(7), waves(wave(0, 64, 0)), list(7), api.OK}, {nil, waves(wave(0, 1, 1)), nil, api.ErrWaves},
		{list(0), waves(wave(0, 64, 256)), list(most), api.OK}, {list(0), waves(wave(0, -64, 256)), list(-most), api.OK}, {list(1), waves(wave(0, 64, 256)), nil, api.ErrRange}, {list(-1), waves(wave(0, 64, -256)), nil, api.ErrRange}, {list(1), waves(wave(0, -64, 256)), list(1 - most), api.OK}, {list(-most), waves(wave(0, 64, 256)), list(0), api.OK}, {list(most, 0), waves(wave(0, 1, 0, 1)), list(most, 1), api.OK}, {list(most, 0), waves(wave(0, 1, 1, 1)), nil, api.ErrRange}, {list(0, -most), waves(wave(0, 1, 5, -1)), nil, api.ErrRange},
		// Only what all of them make together has to be a record.
		{list(0, 0), waves(wave(0, 64, 256, 256), wave(1, 64, 256)), nil, api.ErrRange}, {list(0, 0), waves(wave(0, 64, 256, 256), wave(1, -64, 256)), list(most, 0), api.OK}, {list(0, most), waves(wave(0, 1, 0, 9), wave(1, -1, 9)), list(0, most), api.OK},
		{make([]int, 64), append(manyWaves(0)[:63], wave(63, 1, 256)), append(slices.Repeat(list(1), 63), 256), api.OK}, {make([]int, 1024), waves(wave(960, -1, slices.Repeat(list(3), 64)...)), append(make([]int, 960), slices.Repeat(list(-3), 64)...), api.OK},
	} {
		l, e := Inject(c.x, c.w)
		isList(t, fmt.Sprint(c.x[:min(8, len(c.x))], c.w), l, e, c.want, c.e)
	}
	// All injections at once, as great as they may be.
	var l []api.Wave
	for at := range api.MaxWaves {
		l = append(l, wave(at, 64, slices.Repeat(list(256), 64)...))
	}
	got, e := Inject(make([]int, 127), l)
	isList(t, "great", got, e, nil, api.ErrRange)
}

// P8.6: envelopes, by hand, and with the greatest numbers.
func TestSeal(t *testing.T) {
	x := make([]int, 1024)
	for _, c := range []struct {
		w    []api.Wave
		key  int
		want api.Envelope
	}{
		{nil, 0, api.Envelope{Code: 1}}, {nil, 1 << 30, api.Envelope{Code: 1<<30 + 1}}, {[]api.Wave{}, 7, api.Envelope{Code: 8}},
		{waves(wave(0, 0, 0)), 0, modelEnvelope(waves(wave(0, 0, 0)), 0)}, {waves(wave(1, 2, 1, 3)), 5, modelEnvelope(waves(wave(1, 2, 1, 3)), 5)}, {waves(wave(960, -64, slices.Repeat(list(-256), 64)...)), 1 << 30, modelEnvelope(waves(wave(960, -64, slices.Repeat(list(-256), 64)...)), 1<<30)}, {manyWaves(960), 9, modelEnvelope(manyWaves(960), 9)},
	} {
		got, e := Seal(x, c.w, c.key)
		is(t, fmt.Sprint(c.w, c.key), got, e, c.want, api.OK)
	}
	// 1 becomes 48271 + 65536 = 113807, then 113807 * 48271 + 65536 = 5493643233 = 2 * 2147483647 + 1198675939, and so on.
	code := 1
	for _, n := range list(0, 0, 1, 0) {
		code = (code*48271 + n + 65536) % 2147483647
	}
	got, e := Seal(x, waves(wave(0, 0, 0)), 0)
	is(t, "by hand", got, e, api.Envelope{Many: 1, Code: code}, api.OK)
	if first := (113807*48271 + 65536) % 2147483647; first != 1198675939 {
		t.Errorf("%d", first)
	}
	// The record is not part of it, and what the injections make of it is not looked at.
	got, e = Seal(slices.Repeat(list(1<<14), 9), waves(wave(0, 64, 256)), 3)
	is(t, "too great", got, e, modelEnvelope(waves(wave(0, 64, 256)), 3), api.OK)
}

// P8.6: what is found in envelopes, and records that would be none.
func TestOpen(t *testing.T) {
	most := 1 << 14
	w := waves(wave(1, 2, 1, 3))
	good := modelEnvelope(w, 5)
	great := waves(wave(0, 64, 256))
	for _, c := range []struct {
		e    api.Envelope
		x    []int
		w    []api.Wave
		key  int
		want []int
		err  api.Errno
	}{
		{good, list(0, 2, 6, 0), w, 5, list(0, 0, 0, 0), api.OK}, {good, list(1, 2, 3), w, 5, list(1, 0, -3), api.OK}, {good, list(0, 2, 6, 0), w, 6, nil, api.ErrEnvelope}, {good, list(0, 2, 6, 0), w, 4, nil, api.ErrEnvelope}, {good, list(0, 2, 6, 0), waves(wave(1, 2, 1, 4)), 5, nil, api.ErrEnvelope}, {good, list(0, 2, 6, 0), waves(wave(1, 2, 1)), 5, nil, api.ErrEnvelope}, {good, list(0, 2, 6, 0), nil, 5, nil, api.ErrEnvelope},
		{api.Envelope{Many: 1, Code: good.Code + 2147483647}, list(0, 2, 6, 0), w, 5, nil, api.ErrEnvelope}, {api.Envelope{Many: 2, Code: good.Code}, list(0, 2, 6, 0), w, 5, nil, api.ErrEnvelope}, {api.Envelope{Many: 0, Code: good.Code}, list(0, 2, 6, 0), w, 5, nil, api.ErrEnvelope}, {api.Envelope{Many: 1, Code: good.Code + 1}, list(0, 2, 6, 0), w, 5, nil, api.ErrEnvelope}, {api.Envelope{}, list(0, 2, 6, 0), w, 5, nil, api.ErrEnvelope}, {api.Envelope{Many: -1 << 63, Code: 1<<63 - 1}, list(0, 2, 6, 0), w, 5, nil, api.ErrEnvelope},
		{api.Envelope{Code: 1}, nil, nil, 0, nil, api.OK}, {api.Envelope{Code: 1}, list(4, 5), nil, 0, list(4, 5), api.OK}, {api.Envelope{}, list(4, 5), nil, 0, nil, api.ErrEnvelope},
		{modelEnvelope(great, 0), list(most), great, 0, list(0), api.OK}, {modelEnvelope(great, 0), list(0), great, 0, list(-most), api.OK}, {modelEnvelope(great, 0), list(-1), great, 0, nil, api.ErrRange}, {modelEnvelope(great, 1), list(-1), great, 0, nil, api.ErrEnvelope}, {modelEnvelope(great, 0), list(-1), great, -1, nil, api.ErrRange}, {modelEnvelope(waves(wave(0, -64, 256)), 0), list(1), waves(wave(0, -64, 256)), 0, nil, api.ErrRange},
	} {
		l, e := Open(c.e, c.x, c.w, c.key)
		isList(t, fmt.Sprint(c.e, c.x, c.w, c.key), l, e, c.want, c.err)
	}
}

// P8.4, P8.6: ErrPulses comes first, then ErrWaves, then ErrRange, then ErrEnvelope.
func TestErrorsOfInjections(t *testing.T) {
	check := func(x []int, w []api.Wave, key int, inject, seal, open api.Errno) {
		t.Helper()
		what := fmt.Sprint(len(x), len(w), key)
		l, e := Inject(x, w)
		checkError(t, "Inject "+what, len(l), e, inject)
		s, e := Seal(x, w, key)
		checkError(t, "Seal "+what, s.Many|s.Code, e, seal)
		l, e = Open(api.Envelope{Many: -1}, x, w, key)
		checkError(t, "Open "+what, len(l), e, open)
	}
	const pulses, wrong, key, envelope = api.ErrPulses, api.ErrWaves, api.ErrRange, api.ErrEnvelope
	for _, n := range list(0, 1<<30, -1, 1<<30+1) {
		for _, x := range wrongRecords() {
			for _, w := range [][]api.Wave{nil, waves(wave(0, 1, 1)), waves(wave(-1, 1))} {
				check(x, w, n, pulses, pulses, pulses)
			}
		}
		for _, w := range wrongWaves() {
			check(make([]int, 100), w, n, wrong, wrong, wrong)
			check(slices.Repeat(list(1<<14), 100), w, n, wrong, wrong, wrong)
		}
		for _, w := range validWaves() {
			if len(w) > 0 {
				check(nil, w, n, wrong, wrong, wrong)
				check(make([]int, w[len(w)-1].At), w, n, wrong, wrong, wrong)
			}
		}
	}
	for _, w := range validWaves() {
		for _, n := range list(-1, 1<<30+1, 1<<32, 1<<62, 1<<63-1, -1<<63) {
			check(make([]int, 100), w, n, api.OK, key, key)
		}
		for _, n := range list(0, 1, 1<<30) {
			check(make([]int, 100), w, n, api.OK, api.OK, envelope)
		}
	}
	for _, x := range validRecords() {
		check(x, nil, 0, api.OK, api.OK, envelope)
	}
}

// P8.6, P8.14: as the definitions say; what is opened is what was there before, and each change is found.
func TestRandomInjections(t *testing.T) {
	r := rand.New(rand.NewSource(9))
	outside, opened := 0, 0
	for range 2000 {
		x := randomRecord(r, pick(r, 5, 80))
		w, key := randomWaves(r, len(x), pick(r, 1, 5, 64)), r.Intn(1<<30+1)
		what := fmt.Sprint(x, w, key)
		want, wantError := modelInject(x, w), api.OK
		if !modelIsRecord(want) {
			want, wantError = nil, api.ErrRange
			outside++
		}
		after, e := Inject(x, w)
		isList(t, what, after, e, want, wantError)
		s, e := Seal(x, w, key)
		is(t, what, s, e, modelEnvelope(w, key), api.OK)
		if wantError != api.OK {
			continue
		}
		before, e := Open(s, after, w, key)
		isList(t, what, before, e, x, api.OK)
		before, e = Open(s, after, w, (key+1+r.Intn(1<<30))%(1<<30+1))
		isList(t, what, before, e, nil, api.ErrEnvelope)
		if len(w) > 0 {
			opened++
			checkChange(t, r, s, after, w, key)
		}
	}
	if outside < 50 || opened < 1000 {
		t.Errorf("%d are no records, %d are opened", outside, opened)
	}
}

// checkChange changes one number of some injections.
func checkChange(t *testing.T, r *rand.Rand, s api.Envelope, x []int, w []api.Wave, key int) {
	t.Helper()
	changed := copyWaves(w)
	i := r.Intn(len(w))
	n := []*int{&changed[i].At, &changed[i].Gain, &changed[i].Samples[r.Intn(len(w[i].Samples))]}[r.Intn(3)]
	old := *n
	*n += pick(r, 1, -1, 2, -2, r.Intn(100)+1)
	if e := api.ErrEnvelope; areWaves(changed, len(x)) {
		before, err := Open(s, x, changed, key)
		isList(t, fmt.Sprint(w, changed), before, err, nil, e)
		other, err := Seal(x, changed, key)
		if other == s || err != api.OK {
			t.Errorf("%v: the change from %d to %d is not found", w, old, *n)
		}
	}
}

// P8.14: each other value that a number may have.
func TestAllChanges(t *testing.T) {
	x := make([]int, 100)
	w := waves(wave(3, 4, 5, -6), wave(50, -7, 8))
	s := must[api.Envelope](t)(Seal(x, w, 77))
	check := func(n *int, low, high int) {
		old := *n
		for *n = low; *n <= high; *n++ {
			want := api.ErrEnvelope
			if *n == old {
				want = api.OK
			}
			_, e := Open(s, x, w, 77)
			hasError(t, fmt.Sprint(w), e, want)
		}
		*n = old
	}
	check(&w[0].At, 0, 49)
	check(&w[0].Gain, -64, 64)
	check(&w[0].Samples[0], -256, 256)
	check(&w[0].Samples[1], -256, 256)
	check(&w[1].At, 4, 99)
	check(&w[1].Gain, -64, 64)
	check(&w[1].Samples[0], -256, 256)
}

// P8.7: before, at and after an injection, without a clock.
func TestFound(t *testing.T) {
	w := waves(wave(0, 1, 1), wave(10, 1, 1, 1, 1, 1), wave(50, 0, 0))
	for _, c := range []struct {
		l       []api.Trigger
		w       []api.Wave
		samples int
		window  int
		want    []bool
	}{
		{triggers(10, 1, 1), w, 100, 0, []bool{false, true, false}}, {triggers(10, 1, 1), w, 51, 0, []bool{false, true, false}}, {triggers(9, 1, 1), w, 100, 0, []bool{false, false, false}}, {triggers(11, 1, 1), w, 100, 0, []bool{false, false, false}}, {triggers(9, 1, 1), w, 100, 1, []bool{false, true, false}}, {triggers(11, 1, 1), w, 100, 1, []bool{false, true, false}}, {triggers(8, 1, 1), w, 100, 1, []bool{false, false, false}}, {triggers(12, 1, 1), w, 100, 1, []bool{false, false, false}}, {triggers(5, 1, 1), w, 100, 5, []bool{true, true, false}}, {triggers(5, 1, 1), w, 100, 4, []bool{false, false, false}},
		{triggers(0, 0, 0, 48, 0, 0), w, 100, 2, []bool{true, false, true}}, {triggers(0, 0, 0, 48, 0, 0), w, 100, 1, []bool{true, false, false}}, {triggers(0, 0, 0, 52, 0, 255), w, 100, 2, []bool{true, false, true}}, {triggers(0, 0, 0, 52, 0, 255), w, 100, 1, []bool{true, false, false}}, {triggers(99, 1, 1), w, 100, 1, []bool{false, false, false}},
		{nil, w, 100, 1 << 30, []bool{false, false, false}}, {triggers(7, 1, 1), nil, 100, 5, nil}, {nil, nil, 0, 0, nil}, {triggers(7, 1, 1), nil, 0, 0, nil}, {triggers(1<<30-1, 1, 1), w, 100, 1 << 30, []bool{true, true, true}}, {triggers(1<<30-1, 1, 1), w, 100, 1<<30 - 11, []bool{false, true, true}}, {triggers(1<<30-1, 1, 1), w, 100, 1<<30 - 12, []bool{false, false, true}}, {triggers(1023, 1, 1), waves(wave(1023, 1, 1)), 1024, 0, []bool{true}},
	} {
		l, e := Found(c.l, c.w, c.samples, c.window)
		isList(t, fmt.Sprint(c.l, c.w, c.samples, c.window), l, e, c.want, api.OK)
	}
}

// P8.7: ErrTriggers comes first, then ErrRange, then ErrWaves.
func TestErrorsOfFound(t *testing.T) {
	check := func(l []api.Trigger, w []api.Wave, samples, window int, want api.Errno) {
		t.Helper()
		found, e := Found(l, w, samples, window)
		checkError(t, fmt.Sprint(len(l), len(w), samples, window), len(found), e, want)
	}
	wrong := wrongWaves()
	for _, n := range list(100, -1, 1<<62) {
		for _, l := range wrongTriggers() {
			check(l, nil, n, n, api.ErrTriggers)
			check(l, wrong[0], n, n, api.ErrTriggers)
		}
	}
	for _, w := range [][]api.Wave{nil, waves(wave(0, 1, 1)), wrong[0]} {
		for _, n := range list(-1, 1025, 1<<32, 1<<62, 1<<63-1, -1<<63) {
			check(exampleA(), w, n, 0, api.ErrRange)
			check(nil, w, n, 1<<30, api.ErrRange)
		}
		for _, n := range list(-1, 1<<30+1, 1<<32, 1<<62, 1<<63-1, -1<<63) {
			check(exampleA(), w, 100, n, api.ErrRange)
			check(nil, w, 0, n, api.ErrRange)
		}
	}
	for _, n := range list(0, 7, 1<<30) {
		for _, l := range validTriggers() {
			for _, w := range wrong {
				check(l, w, 100, n, api.ErrWaves)
			}
			for _, w := range validWaves() {
				if len(w) > 0 {
					check(l, w, w[len(w)-1].At, n, api.ErrWaves)
					check(l, w, 0, n, api.ErrWaves)
				} else {
					check(l, w, 0, n, api.OK)
				}
				check(l, w, 100, n, api.OK)
				check(l, w, 1024, n, api.OK)
			}
		}
	}
}

// P8.7: as the definition says.
func TestRandomFound(t *testing.T) {
	r := rand.New(rand.NewSource(10))
	many := map[bool]int{}
	for range 2000 {
		samples := r.Intn(pick(r, 10, 100, 1025))
		l, w, window := randomTriggers(r, 20, samples+10), randomWaves(r, samples, pick(r, 3, 64)), r.Intn(pick(r, 1, 3, 50))
		found, e := Found(l, w, samples, window)
		isList(t, fmt.Sprint(l, w, samples, window), found, e, modelFound(l, w, window), api.OK)
		for _, is := range found {
			many[is]++
		}
	}
	if many[true] < 1000 || many[false] < 1000 {
		t.Errorf("%v are found", many)
	}
}
