package rows

import "concordat/api"

// all tells whether something holds of each one of a list.
func all[T any](l []T, holds func(x T) bool) bool {
	for _, x := range l {
		if !holds(x) {
			return false
		}
	}
	return true
}

// putList puts a list's count, and each one of it as put does.
func putList[T any](w *writer, l []T, put func(x T)) {
	w.count(len(l))
	for _, x := range l {
		put(x)
	}
}

// getList gets a count of at most most, and so many, each one as get does.
func getList[T any](r *reader, most int, get func() T) []T {
	n := r.count()
	r.need(n <= most)
	// The list grows by what is there, not by the count: a few bytes can't ask for much memory.
	var l []T
	for i := 0; i < n && !r.bad; i++ {
		l = append(l, get())
	}
	return l
}

// whole answers what was got, if all the bytes were needed for it and none was missing or wrong.
func whole[T any](r *reader, l []T) ([]T, api.Errno) {
	if r.bad || len(r.rest) > 0 {
		return nil, api.ErrForm
	}
	return l, api.OK
}

// writer holds the bytes that were made so far.
type writer struct {
	made []byte
}

func (w *writer) small(x byte) {
	w.made = append(w.made, x)
}

func (w *writer) count(n int) {
	w.made = append(w.made, byte(n>>8), byte(n))
}

func (w *writer) number(x uint32) {
	w.made = append(w.made, byte(x>>24), byte(x>>16), byte(x>>8), byte(x))
}

// text puts a key, or nothing: neither has more bytes than one byte can count.
func (w *writer) text(s string) {
	w.small(byte(len(s)))
	w.made = append(w.made, s...)
}

func (w *writer) mark(is bool) {
	if is {
		w.small(1)
	} else {
		w.small(0)
	}
}

// reader holds the bytes that were not read yet. Once something was missing or wrong it is bad, and stays so: what it reads then is of no use to anybody.
type reader struct {
	rest []byte
	bad  bool
}

// need says what must hold of what was read.
func (r *reader) need(holds bool) {
	if !holds {
		r.bad = true
	}
}

// take reads so many bytes; none, if there are fewer.
func (r *reader) take(n int) []byte {
	if n > len(r.rest) {
		r.bad = true
		return nil
	}
	b := r.rest[:n]
	r.rest = r.rest[n:]
	return b
}

// high reads a number of so many bytes, the highest one first.
func (r *reader) high(n int) uint32 {
	var x uint32
	for _, c := range r.take(n) {
		x = x<<8 | uint32(c)
	}
	return x
}

func (r *reader) small() byte {
	return byte(r.high(1))
}

func (r *reader) count() int {
	return int(r.high(2))
}

func (r *reader) number() uint32 {
	return r.high(4)
}

func (r *reader) text() string {
	return string(r.take(int(r.small())))
}

// mark reads a byte of which each value but 0 and 1 is wrong.
func (r *reader) mark() bool {
	x := r.small()
	r.need(x <= 1)
	return x == 1
}
