package record

// stream carries the lowest bits of a value, so many as size, the highest one first. A writer puts them out and returns the value; a reader returns what it reads in its place. So both directions follow one description of a code.
type stream interface {
	carry(value, size int) int
}

// writer is bytes, and how many bits of the last one are free.
type writer struct {
	bytes []byte
	free  int
}

func (w *writer) carry(value, size int) int {
	for i := size - 1; i >= 0; i-- {
		if w.free == 0 {
			w.bytes = append(w.bytes, 0)
			w.free = 8
		}
		w.free--
		w.bytes[len(w.bytes)-1] |= byte(value>>i&1) << w.free
	}
	return value
}

// reader is bytes, and how many of their bits were read. Behind the last byte it reads bits 0, and counts them: so its user need only look at the end whether there were enough.
type reader struct {
	bytes []byte
	at    int
}

func (r *reader) carry(_, size int) int {
	value := 0
	for range size {
		value = value<<1 | r.bit()
	}
	return value
}

func (r *reader) bit() int {
	i, place := r.at/8, 7-r.at%8
	r.at++
	if i >= len(r.bytes) {
		return 0
	}
	return int(r.bytes[i]>>place) & 1
}

// isFilled says that all bits were read, but for bits 0 in the last byte.
func (r *reader) isFilled() bool {
	left := 8*len(r.bytes) - r.at
	return isFrom(0, left, 7) && r.carry(0, left) == 0
}
