package record

import (
	"fmt"
	"math/rand"
	"slices"
	"strings"
	"testing"

	"ringdown/api"
)

// P5.2: the examples.
func TestCodeOfExample(t *testing.T) {
	for _, c := range []struct {
		x    []int
		bits string
	}{{list(0, 1, 1, 2), "01" + "00000" + "0" + "110" + "0" + "110"}, {list(-1), "00" + "00000" + "10"}} {
		w := &writer{}
		write(w, c.x)
		if !slices.Equal(w.bytes, modelBytes(c.bits)) || 8*len(w.bytes)-w.free != len(c.bits) {
			t.Errorf("the bits of %v: %b", c.x, w.bytes)
		}
	}
	code, e := Encode(example(), exampleFrame())
	isList(t, "Encode", code, e, exampleCode(), api.OK)
	f, e := Decode(example(), exampleCode())
	hasFrame(t, "Decode", f, e, exampleFrame(), api.OK)
}

// samplesOf returns lists of samples whose best codings are of all kinds.
func samplesOf(r *rand.Rand) [][]int {
	spike := make([]int, 64)
	spike[7] = 1<<22 - 5
	spikes := make([]int, 64)
	spikes[63], spikes[20] = -1<<23, 1<<23-1
	swing := make([]int, 64)
	for t := range swing {
		swing[t] = 1<<23 - 1 - t%2*(1<<24-1)
	}
	lists := [][]int{spike, spikes, swing, make([]int, 64), slices.Repeat(list(-1<<23), 64), slices.Repeat(list(1<<23-1), 64), {0}, {-1 << 23}, {1<<23 - 1}, {19, -19}, {9, 10}, {-10, 10}, {-10, -11}}
	for u := range 64 {
		lists = append(lists, list(unfolded(u)), list(0, 0, 0, 0, unfolded(u), 0, 0, 0))
	}
	for range 1200 {
		lists = append(lists, randomSamples(r, channel("c", pick(r, 1, 2, 4, 8, 16, 32, 64), r.Intn(23)+2)))
	}
	return lists
}

// P5.2: channels have the bits that the definition says: of all orders, with many parameters, and with values that are written whole.
func TestBitsOfChannels(t *testing.T) {
	orders, parameters, whole := map[int]int{}, map[int]int{}, 0
	for _, x := range samplesOf(rand.New(rand.NewSource(1))) {
		bits, order, k := modelBest(x)
		orders[order]++
		parameters[k]++
		if strings.Contains(bits[7:], strings.Repeat("1", 20)) && slices.Max(modelFolded(x, order))>>k >= 20 {
			whole++
		}
		w := &writer{}
		write(w, x)
		if !slices.Equal(w.bytes, modelBytes(bits)) {
			t.Fatalf("%v: order %d, parameter %d", x, order, k)
		}
		if c := best(x); c != (coding{order, k, len(bits)}) {
			t.Fatalf("%v: %v, not %d, %d, %d", x, c, order, k, len(bits))
		}
	}
	if len(orders) != 4 || min(orders[0], orders[1], orders[2], orders[3]) < 20 || len(parameters) < 20 || whole < 10 {
		t.Errorf("orders %v, parameters %v, whole %d", orders, parameters, whole)
	}
}

// P5.2, P5.9: codes of random frames are as defined, and are decoded to the same frame.
func TestEncodeAndDecode(t *testing.T) {
	r := rand.New(rand.NewSource(2))
	for range 300 {
		b := randomBook(r, 5, 16)
		f := randomFrame(r, b, pick(r, 0, 1, 255, 256, 1<<30, r.Intn(1<<30)))
		code, e := Encode(b, f)
		isList(t, "Encode", code, e, modelCode(f), api.OK)
		g, e := Decode(b, code)
		hasFrame(t, "Decode", g, e, f, api.OK)
	}
}

// P5.2, P5.9: the greatest frames, with the smallest and the greatest samples.
func TestLargestFrames(t *testing.T) {
	b := largest()
	r := rand.New(rand.NewSource(3))
	for _, sample := range []func(t int) int{
		func(int) int { return 0 },
		func(int) int { return -1 << 23 },
		func(int) int { return 1<<23 - 1 },
		func(t int) int { return 1<<23 - 1 - t%2*(1<<24-1) },
		func(int) int { return r.Intn(1<<24) - 1<<23 },
		func(int) int { return 1<<23 - 1 - r.Intn(2)*(1<<24-1) },
	} {
		f := api.Frame{Start: 1 << 30}
		for range b {
			x := make([]int, 64)
			for i := range x {
				x[i] = sample(i)
			}
			f.Samples = append(f.Samples, x)
		}
		code, e := Encode(b, f)
		isList(t, "Encode", code, e, modelCode(f), api.OK)
		g, e := Decode(b, code)
		hasFrame(t, "Decode", g, e, f, api.OK)
	}
}

// P5.2, P5.9: all frames of a small book have different codes, and of all bytes with the form of codes, and with the right check, only those are decoded.
func TestAllCodes(t *testing.T) {
	for _, c := range []struct {
		b      []api.Channel
		frames [][]int
	}{
		{book(channel("a", 1, 2)), [][]int{{-2}, {-1}, {0}, {1}}},
		{book(channel("a", 1, 3)), [][]int{{-4}, {-3}, {-2}, {-1}, {0}, {1}, {2}, {3}}},
		{book(channel("a", 2, 2)), [][]int{{-2, -2}, {-2, -1}, {-2, 0}, {-2, 1}, {-1, -2}, {-1, -1}, {-1, 0}, {-1, 1}, {0, -2}, {0, -1}, {0, 0}, {0, 1}, {1, -2}, {1, -1}, {1, 0}, {1, 1}}},
	} {
		codes := map[string]api.Frame{}
		for _, x := range c.frames {
			f := frame(5, x)
			codes[string(must[[]byte](t)(Encode(c.b, f)))] = f
		}
		decoded := 0
		try := func(code []byte) {
			f, e := Decode(c.b, code)
			want, isCode := codes[string(code)]
			if isCode != (e == api.OK) || !sameFrame(f, want) || !isCode && e != api.ErrForm {
				t.Fatalf("%X: %v, %d", code, f, e)
			}
			if isCode {
				decoded++
			}
		}
		for n := range 1 << 16 {
			try(modelSeal(fmt.Sprintf("%032b%016b", 5, n)))
			try(modelSeal(fmt.Sprintf("%032b%016b%08b", 5, n, 0)))
		}
		for n := range 1 << 8 {
			try(modelSeal(fmt.Sprintf("%032b%08b", 5, n)))
		}
		try(modelSeal(fmt.Sprintf("%032b", 5)))
		if decoded != len(c.frames) || len(codes) != len(c.frames) {
			t.Errorf("%v: %d decoded, %d codes", c.b, decoded, len(codes))
		}
	}
}

// P5.2: bits with another order or parameter, or with values written whole where they need not be, are no code, though their check is right.
func TestOtherBits(t *testing.T) {
	r := rand.New(rand.NewSource(4))
	b := book(channel("a", 8, 12))
	for range 60 {
		x := randomSamples(r, b[0])
		start := fmt.Sprintf("%032b", 77)
		best, order, k := modelBest(x)
		f, e := Decode(b, modelSeal(start+best))
		hasFrame(t, "best", f, e, frame(77, x), api.OK)
		for o := range 4 {
			for p := range 32 {
				if o == order && p == k {
					continue
				}
				f, e := Decode(b, modelSeal(start+modelBits(x, o, p)))
				hasFrame(t, fmt.Sprint(x, o, p), f, e, api.Frame{}, api.ErrForm)
			}
		}
		values := modelFolded(x, order)
		for whole := range values {
			bits := modelHead(order, k)
			for i, u := range values {
				if i == whole || u>>k >= 20 {
					bits += modelWhole(u)
				} else {
					bits += modelShort(u, k)
				}
			}
			if bits != best {
				f, e := Decode(b, modelSeal(start+bits))
				hasFrame(t, fmt.Sprint(x, " whole ", whole), f, e, api.Frame{}, api.ErrForm)
			}
		}
	}
}

// P5.2: a whole value that the bytes cut off is no code, whatever would follow.
func TestCutBits(t *testing.T) {
	b := book(channel("a", 1, 24))
	for _, x := range []int{0, 1, -1, 5, 100, 1<<23 - 1, -1 << 23} {
		values := modelFolded(list(x), 0)
		for k := range 32 {
			bits := fmt.Sprintf("%032b", 1) + modelHead(0, k) + modelWhole(values[0])
			for n := range len(bits) {
				code := modelSeal(bits[:n])
				if f, e := Decode(b, code); e != api.ErrForm && !slices.Equal(modelCode(f), code) {
					t.Errorf("%d, parameter %d, %d bits: %v, %d", x, k, n, f, e)
				}
			}
		}
	}
}

// P5.2: what is decoded is a valid frame of the book.
func TestDecodeOfWrongFrames(t *testing.T) {
	b := example()
	hasShape := func(f api.Frame) bool {
		return len(f.Samples) == 2 && len(f.Samples[0]) == 4 && len(f.Samples[1]) == 1
	}
	for _, f := range wrongFrames() {
		if !hasShape(f) || f.Start < 0 || f.Start >= 1<<32 {
			continue
		}
		g, e := Decode(b, modelCode(f))
		hasFrame(t, fmt.Sprint(f), g, e, api.Frame{}, api.ErrForm)
	}
	// Of each number of samples, and of each channel, there are just so many.
	for _, other := range [][]api.Channel{example()[:1], example()[1:], book(channel("aux", 1, 4), channel("err", 4, 8)), book(channel("err", 2, 8), channel("aux", 1, 4)), book(channel("err", 4, 8), channel("aux", 2, 4)), append(example(), channel("more", 1, 4)), book(channel("err", 4, 2), channel("aux", 1, 4))} {
		g, e := Decode(other, exampleCode())
		hasFrame(t, fmt.Sprint(other), g, e, api.Frame{}, api.ErrForm)
	}
	// Names do not matter, nor do bits that are not needed.
	f, e := Decode(book(channel("x", 4, 3), channel("y", 1, 2)), exampleCode())
	hasFrame(t, "other names", f, e, exampleFrame(), api.OK)
}

// P5.2: bytes that are nearly a code.
func TestDecodeErrors(t *testing.T) {
	b, code := example(), exampleCode()
	noCode := func(what string, code []byte) {
		t.Helper()
		f, e := Decode(b, code)
		hasFrame(t, what, f, e, api.Frame{}, api.ErrForm)
	}
	for n := range code {
		noCode(fmt.Sprint("the first ", n), code[:n])
		noCode(fmt.Sprint("all from ", n+1), code[n+1:])
	}
	noCode("nothing", nil)
	noCode("nothing", []byte{})
	noCode("one byte more", append(exampleCode(), 0))
	noCode("one byte before", append([]byte{0xA5}, code...))
	noCode("twice", append(exampleCode(), code...))
	// The check is right in all that follows.
	inner := code[4 : len(code)-3]
	with := func(head []byte, parts ...[]byte) []byte {
		return modelChecked(slices.Concat(head, slices.Concat(parts...)))
	}
	if !slices.Equal(with([]byte{0xA5, 0x5A, 0, 7}, inner), code) {
		t.Fatal("the model of checks is wrong")
	}
	noCode("another mark", with([]byte{0x5A, 0xA5, 0, 7}, inner))
	noCode("another mark", with([]byte{0xA5, 0x5B, 0, 7}, inner))
	noCode("another mark", with([]byte{0x25, 0x5A, 0, 7}, inner))
	noCode("too short", with([]byte{0xA5, 0x5A, 0, 6}, inner))
	noCode("too long", with([]byte{0xA5, 0x5A, 0, 8}, inner))
	noCode("the length in the other order", with([]byte{0xA5, 0x5A, 7, 0}, inner))
	noCode("one byte 0 more", with([]byte{0xA5, 0x5A, 0, 8}, inner, []byte{0}))
	noCode("bytes 0 more", with([]byte{0xA5, 0x5A, 1, 7}, inner, make([]byte, 256)))
	noCode("as long as possible", with([]byte{0xA5, 0x5A, 255, 255}, inner, make([]byte, 65535-7)))
	noCode("no inner part", with([]byte{0xA5, 0x5A, 0, 0}))
	noCode("a Start alone", with([]byte{0xA5, 0x5A, 0, 4}, inner[:4]))
	noCode("less than a Start", with([]byte{0xA5, 0x5A, 0, 3}, inner[:3]))
	noCode("the last byte missing", with([]byte{0xA5, 0x5A, 0, 6}, inner[:6]))
	// The bits of the example leave one bit of its last byte.
	filled := slices.Clone(inner)
	filled[6] |= 1
	noCode("a bit 1 behind the last channel", with([]byte{0xA5, 0x5A, 0, 7}, filled))
	for _, start := range []int{1<<30 + 1, 1 << 31, 1<<32 - 1} {
		bits := fmt.Sprintf("%032b", start)
		noCode("a great Start", with([]byte{0xA5, 0x5A, 0, 7}, modelBytes(bits), inner[4:]))
	}
	f, e := Decode(b, with([]byte{0xA5, 0x5A, 0, 7}, []byte{64, 0, 0, 0}, inner[4:]))
	g := exampleFrame()
	g.Start = 1 << 30
	hasFrame(t, "the greatest Start", f, e, g, api.OK)
}

// P5.2: a check that is written otherwise, but has the same rest, is another one.
func TestChecks(t *testing.T) {
	code := exampleCode()
	for i := range 1 << 16 {
		changed := slices.Clone(code)
		changed[12], changed[13] = byte(i>>8), byte(i)
		if _, e := Decode(example(), changed); (e == api.OK) != slices.Equal(changed, code) {
			t.Fatalf("%X: %d", changed, e)
		}
	}
	// A frame whose check is less than 3, so that three bytes could have it in two ways.
	b := book(channel("a", 4, 24))
	code = must[[]byte](t)(Encode(b, frame(0, list(1, 2, 3, 4))))
	n := len(code)
	start := 0
	for checkOf(code[:n-3]) >= 3 {
		start++
		code[4], code[5], code[6], code[7] = byte(start>>24), byte(start>>16), byte(start>>8), byte(start)
	}
	code = must[[]byte](t)(Encode(b, frame(start, list(1, 2, 3, 4))))
	if code[n-3] != 0 || code[n-2] != 0 || code[n-1] >= 3 {
		t.Fatalf("%X", code)
	}
	code[n-3], code[n-2], code[n-1] = 255, 255, code[n-1]+253
	f, e := Decode(b, code)
	hasFrame(t, fmt.Sprintf("%X", code), f, e, api.Frame{}, api.ErrForm)
}

// P5.9: no code with one changed byte is decoded.
func TestChangedBytes(t *testing.T) {
	r := rand.New(rand.NewSource(5))
	for range 12 {
		b := randomBook(r, 3, 8)
		code := must[[]byte](t)(Encode(b, randomFrame(r, b, r.Intn(1<<30))))
		for i := range code {
			for change := 1; change < 256; change++ {
				changed := slices.Clone(code)
				changed[i] ^= byte(change)
				f, e := Decode(b, changed)
				hasFrame(t, fmt.Sprintf("%X instead of %X", changed, code), f, e, api.Frame{}, api.ErrForm)
			}
		}
	}
}

// P5.2: whatever is decoded has that code, also if several bytes are changed and the check is made right.
func TestDecodeOfRandomCodes(t *testing.T) {
	r := rand.New(rand.NewSource(6))
	decoded := 0
	for range 30000 {
		b := randomBook(r, 2, 4)
		code := must[[]byte](t)(Encode(b, randomFrame(r, b, r.Intn(10))))
		body := slices.Clone(code[:len(code)-3])
		for range r.Intn(3) + 1 {
			i := 8 + r.Intn(len(body)-8)
			body[i] ^= 1 << r.Intn(8)
		}
		code = modelChecked(body)
		f, e := Decode(b, code)
		switch {
		case e == api.OK:
			again, e := Encode(b, f)
			isList(t, "Encode", again, e, code, api.OK)
			decoded++
		default:
			hasFrame(t, "Decode", f, e, api.Frame{}, api.ErrForm)
		}
	}
	if decoded < 1000 || decoded > 29000 {
		t.Errorf("%d were decoded", decoded)
	}
}
