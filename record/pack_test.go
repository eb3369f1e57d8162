package record

import (
	"fmt"
	"math/rand"
	"slices"
	"strings"
	"testing"

	"ringdown/api"
)

func span(from, to int) api.Span { return api.Span{From: from, To: to} }

// codesOf returns the codes of frames, one after the other, whatever their Starts.
func codesOf(l ...api.Frame) []byte {
	var codes []byte
	for _, f := range l {
		codes = append(codes, modelCode(f)...)
	}
	return codes
}

// P5.3, P5.9, P5.10: what is packed is unpacked, and salvaged without a loss.
func TestPackAndUnpack(t *testing.T) {
	r := rand.New(rand.NewSource(8))
	for range 60 {
		b := randomBook(r, 4, 8)
		want := randomRecord(r, b, r.Intn(8))
		codes, e := Pack(b, want)
		isList(t, "Pack", codes, e, codesOf(want...), api.OK)
		l, e := Unpack(b, codes)
		hasFrames(t, "Unpack", l, e, want, api.OK)
		l, lost, e := Salvage(b, codes)
		hasFrames(t, "Salvage", l, e, want, api.OK)
		isList(t, "Salvage", lost, e, nil, api.OK)
	}
}

// P5.3: as many frames as there may be, in the greatest book.
func TestLargestRecord(t *testing.T) {
	b := largest()
	want := randomRecord(rand.New(rand.NewSource(9)), b, 64)
	codes := must[[]byte](t)(Pack(b, want))
	l, e := Unpack(b, codes)
	hasFrames(t, "Unpack", l, e, want, api.OK)
	l, lost, e := Salvage(b, codes)
	hasFrames(t, "Salvage", l, e, want, api.OK)
	isList(t, "Salvage", lost, e, nil, api.OK)
}

// P5.3: bytes that are not the codes of a record.
func TestUnpackErrors(t *testing.T) {
	b := example()
	l := startingAt(1, 2, 5)
	codes := codesOf(l...)
	noRecord := func(what string, codes []byte) {
		t.Helper()
		l, e := Unpack(b, codes)
		hasFrames(t, what, l, e, nil, api.ErrForm)
	}
	size := 0
	for _, f := range append([]api.Frame{{}}, l...) {
		if f.Samples != nil {
			size += len(modelCode(f))
		}
		for n := size + 1; n < len(codes) && n < size+6; n++ {
			noRecord(fmt.Sprint("the first ", n), codes[:n])
			noRecord(fmt.Sprint("all from ", n), codes[n:])
		}
	}
	noRecord("one byte", []byte{0})
	noRecord("one byte more", append(codesOf(l...), 0))
	noRecord("one byte before", append([]byte{0}, codes...))
	noRecord("one byte between", slices.Concat(codesOf(l[0]), []byte{0}, codesOf(l[1:]...)))
	noRecord("the same Start", codesOf(l[0], l[0]))
	noRecord("the same Start again", codesOf(startingAt(1, 2, 2)...))
	noRecord("a lesser Start", codesOf(startingAt(2, 1)...))
	noRecord("a lesser Start at the end", codesOf(startingAt(2, 3, 4, 0)...))
	noRecord("a wrong frame", codesOf(l[0], frame(9, list(128, 0, 0, 0), list(0))))
	noRecord("two books", codesOf(l[0], frame(9, list(0))))
	var many []int
	for i := range 64 {
		many = append(many, i)
	}
	l, e := Unpack(b, codesOf(startingAt(many...)...))
	hasFrames(t, "64 frames", l, e, startingAt(many...), api.OK)
	noRecord("65 frames", codesOf(startingAt(append(many, 64)...)...))
	noRecord("many bytes", make([]byte, 1<<21))
}

// P5.4: places where codes are found, or not.
func TestSalvage(t *testing.T) {
	b := example()
	one, two := codesOf(startingAt(1)...), codesOf(startingAt(2)...)
	n, m := len(one), len(two)
	cut := func(code []byte, at int) []byte { return append(slices.Clone(code[:at]), code[at+1:]...) }
	changed := slices.Clone(one)
	changed[9] ^= 16
	for _, c := range []struct {
		what  string
		codes []byte
		want  []api.Frame
		lost  []api.Span
	}{
		{"one byte", []byte{0}, nil, []api.Span{span(0, 1)}},
		{"a mark", []byte{0xA5, 0x5A}, nil, []api.Span{span(0, 2)}},
		{"a head", []byte{0xA5, 0x5A, 0, 7}, nil, []api.Span{span(0, 4)}},
		{"before", slices.Concat([]byte{1, 2, 3}, one), startingAt(1), []api.Span{span(0, 3)}},
		{"behind", slices.Concat(one, []byte{1, 2, 3}), startingAt(1), []api.Span{span(n, n+3)}},
		{"between", slices.Concat(one, []byte{0xA5}, two), startingAt(1, 2), []api.Span{span(n, n+1)}},
		{"all around", slices.Concat([]byte{0}, one, []byte{0xA5, 0x5A}, two, []byte{0}), startingAt(1, 2), []api.Span{span(0, 1), span(n+1, n+3), span(n+m+3, n+m+4)}},
		{"the head of a code in front of it", slices.Concat(one[:4], one), startingAt(1), []api.Span{span(0, 4)}},
		{"most of a code in front of it", slices.Concat(one[:n-1], one), startingAt(1), []api.Span{span(0, n-1)}},
		{"a long head in front of it", slices.Concat([]byte{0xA5, 0x5A, 0, byte(n - 4)}, one, two), startingAt(1, 2), []api.Span{span(0, 4)}},
		{"a longer head in front of it", slices.Concat([]byte{0xA5, 0x5A, 255, 255}, one, make([]byte, 65535)), startingAt(1), []api.Span{span(0, 4), span(n+4, n+4+65535)}},
		{"a head that leads to the end", slices.Concat([]byte{0xA5, 0x5A, 0, byte(n - 3)}, one), startingAt(1), []api.Span{span(0, 4)}},
		{"the same twice", slices.Concat(one, one), startingAt(1), []api.Span{span(n, 2*n)}},
		{"not in order", slices.Concat(two, one), startingAt(2), []api.Span{span(m, m+n)}},
		{"not in order, and on", slices.Concat(two, one, two, codesOf(startingAt(3)...)), startingAt(2, 3), []api.Span{span(m, 2*m+n)}},
		{"a changed byte", slices.Concat(changed, two), startingAt(2), []api.Span{span(0, n)}},
		{"a byte left out", slices.Concat(cut(one, 8), two), startingAt(2), []api.Span{span(0, n-1)}},
		{"a byte left out at the end", slices.Concat(one, cut(two, m-1)), startingAt(1), []api.Span{span(n, n+m-1)}},
		{"a wrong frame", slices.Concat(codesOf(frame(0, list(128, 0, 0, 0), list(0))), one), startingAt(1), []api.Span{span(0, len(codesOf(frame(0, list(128, 0, 0, 0), list(0)))))}},
		{"another book", slices.Concat(codesOf(frame(0, list(1))), one), startingAt(1), []api.Span{span(0, len(codesOf(frame(0, list(1)))))}},
		{"a great Start", slices.Concat(codesOf(frame(1<<30+1, list(0, 1, 1, 2), list(-1))), one), startingAt(1), []api.Span{span(0, 14)}},
	} {
		l, lost, e := Salvage(b, c.codes)
		hasFrames(t, c.what, l, e, c.want, api.OK)
		isList(t, c.what, lost, e, c.lost, api.OK)
	}
}

// P5.4: after 64 frames all bytes are lost.
func TestSalvageOfManyFrames(t *testing.T) {
	b := example()
	var starts []int
	for i := range 70 {
		starts = append(starts, 2*i)
	}
	all := startingAt(starts...)
	for _, junk := range [][]byte{nil, {1, 2}} {
		codes := append(slices.Clone(junk), codesOf(all[:64]...)...)
		n := len(codes)
		codes = append(codes, codesOf(all[64:]...)...)
		var want []api.Span
		if len(junk) > 0 {
			want = []api.Span{span(0, len(junk))}
		}
		l, lost, e := Salvage(b, codes)
		hasFrames(t, "70 codes", l, e, all[:64], api.OK)
		isList(t, "70 codes", lost, e, append(want, span(n, len(codes))), api.OK)
		l, lost, e = Salvage(b, codes[:n])
		hasFrames(t, "64 codes", l, e, all[:64], api.OK)
		isList(t, "64 codes", lost, e, want, api.OK)
	}
}

// P5.4: at most 2^20 bytes, whatever they are.
func TestSalvageOfManyBytes(t *testing.T) {
	most := 1 << 20
	for _, pattern := range [][]byte{{0}, {0xA5}, {0xA5, 0x5A}, {0xA5, 0x5A, 0, 0}, {0xA5, 0x5A, 0x0C, 0x8E, 0, 0, 0, 1}, {0xA5, 0x5A, 0xFF, 0xFF, 0, 0, 0, 1}, {0xA5, 0x5A, 0, 8}} {
		for _, b := range [][]api.Channel{example(), largest()} {
			l, lost, e := Salvage(b, slices.Repeat(pattern, most/len(pattern)))
			hasFrames(t, "Salvage", l, e, nil, api.OK)
			isList(t, "Salvage", lost, e, []api.Span{span(0, most)}, api.OK)
		}
	}
	code := exampleCode()
	codes := append(make([]byte, most-len(code)), code...)
	l, lost, e := Salvage(example(), codes)
	hasFrames(t, "at the end", l, e, []api.Frame{exampleFrame()}, api.OK)
	isList(t, "at the end", lost, e, []api.Span{span(0, most-len(code))}, api.OK)
	for _, codes := range [][]byte{make([]byte, most+1), append(slices.Clone(code), make([]byte, most)...), make([]byte, 2*most)} {
		l, lost, e = Salvage(example(), codes)
		hasFrames(t, "too many", l, e, nil, api.ErrLimit)
		isList(t, "too many", lost, e, nil, api.ErrLimit)
	}
}

func randomBits(r *rand.Rand, many int) string {
	bits := ""
	for range many {
		bits += pick(r, "0", "1")
	}
	return bits
}

// outer returns a frame of one channel with 64 samples of 24 bits, with another code within its own one. Its other samples are great, with random signs, so that its channel has the order 0 and the parameter 23.
func outer(r *rand.Rand, start int, code []byte) api.Frame {
	wanted := ""
	for _, c := range code {
		wanted += fmt.Sprintf("%08b", c)
	}
	for {
		// After the seven bits of order and parameter, one bit is left to a whole byte.
		x, ok := modelSamples(randomBits(r, 1+8*r.Intn(9)) + wanted)
		for len(x) < 64 {
			x = append(x, pick(r, 1, -1)*(1<<23-1-r.Intn(1<<22)))
		}
		f := frame(start, x)
		if ok && strings.Contains(string(modelCode(f)), string(code)) {
			return f
		}
	}
}

// modelSamples returns samples whose bits, with the order 0 and the parameter 23, begin with those that are given, if there are any.
func modelSamples(bits string) (x []int, ok bool) {
	for bits += strings.Repeat("0", 25); len(bits) > 25; {
		u := 0
		if bits[0] == '1' {
			u, bits = 1, bits[1:]
		}
		if bits[0] == '1' {
			return nil, false
		}
		for _, c := range bits[1:24] {
			u = 2*u + int(c-'0')
		}
		bits = bits[24:]
		x = append(x, unfolded(u))
	}
	return x, true
}

// P5.4: a code within a code is found only where that one is not.
func TestCodesWithinCodes(t *testing.T) {
	b := book(channel("a", 64, 24))
	inside := frame(9, make([]int, 64))
	code := codesOf(inside)
	f := outer(rand.New(rand.NewSource(10)), 5, code)
	codes := codesOf(f)
	at := strings.Index(string(codes), string(code))
	l, lost, e := Salvage(b, codes)
	hasFrames(t, "the outer one", l, e, []api.Frame{f}, api.OK)
	isList(t, "the outer one", lost, e, nil, api.OK)
	// Behind a frame that is not before it, the outer one is none; the inner one is still found.
	first := frame(5, make([]int, 64))
	n := len(codesOf(first))
	l, lost, e = Salvage(b, append(codesOf(first), codes...))
	hasFrames(t, "the inner one", l, e, []api.Frame{first, inside}, api.OK)
	isList(t, "the inner one", lost, e, []api.Span{span(n, n+at), span(n+at+len(code), n+len(codes))}, api.OK)
	broken := slices.Clone(codes)
	broken[len(broken)-1] ^= 1
	l, lost, e = Salvage(b, broken)
	hasFrames(t, "the broken one", l, e, []api.Frame{inside}, api.OK)
	isList(t, "the broken one", lost, e, []api.Span{span(0, at), span(at+len(code), len(codes))}, api.OK)
}

// damaged returns bytes with random damage.
func damaged(r *rand.Rand, codes []byte) []byte {
	codes = slices.Clone(codes)
	for range r.Intn(4) {
		at := r.Intn(len(codes) + 1)
		switch r.Intn(4) {
		case 0:
			codes = slices.Insert(codes, at, pick(r, []byte{0xA5}, []byte{0xA5, 0x5A, 0, 7}, codes[:min(at, 20)], []byte{1, 2, 3})...)
		case 1:
			codes = slices.Delete(codes, at, min(len(codes), at+1+r.Intn(3)))
		case 2:
			codes = append(slices.Clone(codes[at:]), codes[:at]...)
		default:
			if at < len(codes) {
				codes[at] ^= byte(1 + r.Intn(255))
			}
		}
	}
	return codes
}

// P5.4, P5.10: what is found in damaged codes is, together with what is lost, all bytes; and it is what the definition says. P5.3: only what loses nothing is unpacked.
func TestSalvageOfDamagedCodes(t *testing.T) {
	r := rand.New(rand.NewSource(11))
	for range 150 {
		b := randomBook(r, 2, 2)
		codes := damaged(r, must[[]byte](t)(Pack(b, randomRecord(r, b, 1+r.Intn(4)))))
		wantFound, wantLost := modelSalvage(b, codes)
		l, lost, e := Salvage(b, codes)
		hasFrames(t, "found", l, e, wantFound, api.OK)
		isList(t, "lost", lost, e, modelSpans(0, wantLost), api.OK)
		var all []byte
		i := 0
		for _, f := range append(l, api.Frame{}) {
			for i < len(lost) && lost[i].From == len(all) {
				all = append(all, codes[lost[i].From:lost[i].To]...)
				i++
			}
			if f.Samples != nil {
				all = append(all, must[[]byte](t)(Encode(b, f))...)
			}
		}
		isList(t, "all bytes", all, api.OK, codes, api.OK)
		unpacked, e := Unpack(b, codes)
		if len(lost) == 0 {
			hasFrames(t, "Unpack", unpacked, e, wantFound, api.OK)
		} else {
			hasFrames(t, "Unpack", unpacked, e, nil, api.ErrForm)
		}
	}
}
