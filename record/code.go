package record

import (
	"iter"

	"ringdown/api"
)

const (
	mark      = 0xA55A // the first bytes of a code
	markSize  = 16     // bits of the mark
	sizeSize  = 16     // bits of the length of the inner part
	startSize = 32     // bits of Start
	checkSize = 24     // bits of the check
	headBytes = (markSize + sizeSize) / 8
	tailBytes = checkSize / 8
)

// codeOf returns the code of a valid frame.
func codeOf(f api.Frame) []byte {
	inner := &writer{}
	inner.carry(f.Start, startSize)
	for _, samples := range f.Samples {
		write(inner, samples)
	}
	code := &writer{}
	code.carry(mark, markSize)
	code.carry(len(inner.bytes), sizeSize)
	code.bytes = append(code.bytes, inner.bytes...)
	code.carry(checkOf(code.bytes), checkSize)
	return code.bytes
}

func checkOf(bytes []byte) int {
	check := 0
	for _, c := range bytes {
		check = (check*api.CheckFactor + int(c) + 1) % api.CheckPrime
	}
	return check
}

// mostInner returns how many bytes the inner part of a code has at most. With the order 0 and Bits as the parameter no sample has more than one bit besides its own ones, and the best coding has no more bits than that.
func mostInner(b []api.Channel) int {
	bits := startSize
	for _, c := range b {
		bits += orderSize + parameterSize + c.Rate*(c.Bits+1)
	}
	return (bits + 7) / 8
}

// parts is a code that was taken apart: the inner part, the check, and all bytes before the check.
type parts struct{ checked, inner, check []byte }

// apart takes apart the code with which bytes begin, if they begin with one by its mark and its length, which is at most so great.
func apart(bytes []byte, most int) (parts, bool) {
	head := &reader{bytes: bytes}
	if head.carry(0, markSize) != mark {
		return parts{}, false
	}
	size := head.carry(0, sizeSize)
	end := headBytes + size
	after := end + tailBytes
	if size > most || len(bytes) < after {
		return parts{}, false
	}
	return parts{checked: bytes[:end:end], inner: bytes[headBytes:end:end], check: bytes[end:after:after]}, true
}

// firstFrame returns the frame with whose code bytes begin, and how many bytes that has.
func firstFrame(b []api.Channel, bytes []byte) (f api.Frame, size int, ok bool) {
	p, ok := apart(bytes, mostInner(b))
	if !ok {
		return api.Frame{}, 0, false
	}
	check := &reader{bytes: p.check}
	if check.carry(0, checkSize) != checkOf(p.checked) {
		return api.Frame{}, 0, false
	}
	f, ok = frameOf(b, p.inner)
	if !ok {
		return api.Frame{}, 0, false
	}
	return f, len(p.checked) + len(p.check), true
}

// frameOf returns the valid frame with an inner part, if there is one.
func frameOf(b []api.Channel, inner []byte) (api.Frame, bool) {
	r := &reader{bytes: inner}
	f := api.Frame{Start: r.carry(0, startSize)}
	for _, c := range b {
		samples, ok := read(r, c.Rate)
		if !ok {
			return api.Frame{}, false
		}
		f.Samples = append(f.Samples, samples)
	}
	return f, r.isFilled() && isFrame(b, f)
}

// piece is bytes that were looked at: the code of a frame, or one byte that is lost.
type piece struct {
	span   api.Span
	frame  api.Frame
	isLost bool
}

// pieces gives the codes of frames whose Starts are greater and greater, up to MaxFrames, and all other bytes, one by one.
func pieces(b []api.Channel, codes []byte) iter.Seq[piece] {
	return func(yield func(piece) bool) {
		found, last := 0, -1
		for at := 0; at < len(codes); {
			p := piece{span: api.Span{From: at, To: at + 1}, isLost: true}
			if found < api.MaxFrames {
				f, size, ok := firstFrame(b, codes[at:])
				if ok && f.Start > last {
					p = piece{span: api.Span{From: at, To: at + size}, frame: f}
					found, last = found+1, f.Start
				}
			}
			if !yield(p) {
				return
			}
			at = p.span.To
		}
	}
}
