package file

import (
	"bytes"

	"daguerre/api"
	"daguerre/num"
)

// reader reads part behind part. It refuses nothing, and takes for zero what it can't read: Decode asks whether the whole was right.
type reader struct {
	rest []byte
	pool []string
}

func read(b []byte) api.Class {
	r := reader{rest: bytes.TrimPrefix(b, []byte(opening))}
	r.pool = readList(&r, r.poolText)
	return r.class()
}

// number needs no error: beside one num answers zeros, so that the reader stays where it is.
func (r *reader) number() int {
	n, size, _ := num.Get(r.rest)
	r.rest = r.rest[size:]
	return int(n)
}

func (r *reader) poolText() string {
	s, size, _ := num.GetText(r.rest)
	r.rest = r.rest[size:]
	return s
}

func (r *reader) truth() bool {
	return r.number() == 1
}

func (r *reader) text() string {
	place := r.number()
	if place < 0 || place >= len(r.pool) {
		return ""
	}
	return r.pool[place]
}

// count holds a list's length to what is left, a byte an element at least, ahead of room being made for it.
func (r *reader) count() int {
	n := r.number()
	if n < 0 || n > len(r.rest) {
		return 0
	}
	return n
}

func readList[T any](r *reader, one func() T) []T {
	list := make([]T, r.count())
	for i := range list {
		list[i] = one()
	}
	return list
}

// In the literals below the calls stand in the order of the bytes: that is the order in which they are made.

func (r *reader) class() api.Class {
	return api.Class{
		Name:      r.text(),
		Super:     r.text(),
		Interface: r.truth(),
		Impl:      readList(r, r.text),
		Fields:    readList(r, r.field),
		Methods:   readList(r, r.method),
	}
}

func (r *reader) field() api.Field {
	return api.Field{Name: r.text(), Type: r.text(), Static: r.truth()}
}

func (r *reader) method() api.Method {
	return api.Method{
		Name:     r.text(),
		Params:   readList(r, r.text),
		Ret:      r.text(),
		Static:   r.truth(),
		Abstract: r.truth(),
		Locals:   r.number(),
		Stack:    r.number(),
		Code:     readList(r, r.instruction),
		Maps:     readList(r, r.stackMap),
		Traps:    readList(r, r.trap),
	}
}

func (r *reader) instruction() api.Ins {
	return api.Ins{Op: r.number(), A: r.number(), C: r.text(), M: r.text()}
}

func (r *reader) stackMap() api.Map {
	return api.Map{At: r.number(), Locals: readList(r, r.text), Stack: readList(r, r.text)}
}

func (r *reader) trap() api.Trap {
	return api.Trap{From: r.number(), To: r.number(), At: r.number(), C: r.text()}
}
