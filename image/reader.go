package image

import "synchrony/api"

// place is a place in bytes.
type place struct {
	bytes []byte
	at    int
}

// left returns how many bytes there are from the place on.
func (p *place) left() int { return len(p.bytes) - p.at }

// next returns the next n bytes, and goes behind them.
func (p *place) next(n int) []byte {
	p.at += n
	return p.bytes[p.at-n : p.at]
}

// reader reads the parts of a layout. After an error it reads no more, and what it returns is not used.
type reader struct {
	place
	err api.Errno
}

// read returns the image whose layout, without its first and last bytes, is b.
func read(b []byte) (api.Image, api.Errno) {
	r := &reader{place: place{bytes: b}}
	im := api.Image{Enums: list(r, (*reader).number), Routines: list(r, (*reader).routine)}
	r.require(r.left() == 0, api.ErrForm)
	return im, r.err
}

// require makes e the error unless ok, or there was an error before.
func (r *reader) require(ok bool, e api.Errno) {
	if r.err == api.OK && !ok {
		r.err = e
	}
}

// take returns the next n bytes.
func (r *reader) take(n int) []byte {
	r.require(n <= r.left(), api.ErrEnd)
	if r.err != api.OK {
		return nil
	}
	return r.next(n)
}

func (r *reader) number() int {
	b := r.take(width)
	if r.err != api.OK {
		return 0
	}
	return number(b)
}

// count returns the number of parts that follow.
func (r *reader) count() int {
	n := r.number()
	r.require(n >= 0 && n <= most, api.ErrForm)
	if r.err != api.OK {
		return 0
	}
	return n
}

// list returns the parts that follow their number.
func list[T any](r *reader, part func(r *reader) T) []T {
	var l []T
	// What is not there is not made, however many parts there should be.
	for n := r.count(); len(l) < n && r.err == api.OK; {
		l = append(l, part(r))
	}
	return l
}

func (r *reader) routine() api.Routine {
	return api.Routine{
		Name: string(r.take(r.count())),
		In:   list(r, (*reader).number),
		Out:  list(r, (*reader).number),
		Regs: r.number(),
		Init: list(r, (*reader).number),
		Code: list(r, (*reader).instruction),
	}
}

func (r *reader) instruction() api.Instr {
	return api.Instr{Op: r.number(), A: r.number(), B: r.number(), C: r.number(), D: r.number()}
}
