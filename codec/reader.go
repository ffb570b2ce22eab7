package codec

// Reader goes through B; Wrong: there was something else.
type Reader struct {
	B     []byte
	Wrong bool
}

// Num: a number.
func (r *Reader) Num() uint64 { return next(r.rest(), Get, r.lose) }

// Int: an int.
func (r *Reader) Int() int { return Zag(r.Num()) }

// Text: a text.
func (r *Reader) Text() string { return next(r.rest(), GetText, r.lose) }

// Bool: yes or no.
func (r *Reader) Bool() bool { return next(r.rest(), GetBool, r.lose) }

// Count: a number up to another one.
func (r *Reader) Count(most int) int { return next(r.rest(), upTo(most), r.lose) }

// End: is all read, and right?
func (r *Reader) End() bool { return r != nil && len(r.B) == 0 && !r.Wrong }

// next: what get tells of b; lose is told how many bytes that has, which is none if there is no such thing.
func next[T any](b []byte, get func([]byte) (T, int), lose func(int)) T {
	x, n := get(b)
	lose(n)
	return x
}

// upTo: Get of a number that is at most so great.
func upTo(most int) func([]byte) (int, int) {
	return func(b []byte) (int, int) {
		u, n := Get(b)
		if most < 0 || u > uint64(most) {
			return 0, 0
		}
		return int(u), n
	}
}

// rest: what is still to be read. Behind a fault nothing can be trusted, so that every get finds nothing.
func (r *Reader) rest() []byte {
	if r == nil || r.Wrong {
		return nil
	}
	return r.B
}

// lose: B without its first n bytes, or a fault if there were none to read.
func (r *Reader) lose(n int) {
	switch {
	case r == nil:
	case n == 0:
		r.B, r.Wrong = nil, true
	default:
		r.B = r.B[n:]
	}
}
