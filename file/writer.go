package file

import (
	"daguerre/api"
	"daguerre/num"
)

// writer writes part behind part. The pool is gathered on the way, since its order is that in which they ask for texts.
type writer struct {
	parts  []byte
	pool   []string
	places map[string]int // in the pool
}

// whole answers the opening, the pool, and the parts that were written.
func (w *writer) whole() []byte {
	b := append([]byte(opening), num.Put(nil, int64(len(w.pool)))...)
	for _, s := range w.pool {
		b = append(b, num.PutText(nil, s)...)
	}
	return append(b, w.parts...)
}

// number has num write apart, since num copies all that stands ahead.
func (w *writer) number(n int) {
	w.parts = append(w.parts, num.Put(nil, int64(n))...)
}

func (w *writer) truth(t bool) {
	if t {
		w.number(1)
	} else {
		w.number(0)
	}
}

func (w *writer) text(s string) {
	place, ok := w.places[s]
	if !ok {
		place = len(w.pool)
		w.places[s] = place
		w.pool = append(w.pool, s)
	}
	w.number(place)
}

func writeList[T any](w *writer, list []T, one func(T)) {
	w.number(len(list))
	for _, x := range list {
		one(x)
	}
}

func (w *writer) class(c api.Class) {
	w.text(c.Name)
	w.text(c.Super)
	w.truth(c.Interface)
	writeList(w, c.Impl, w.text)
	writeList(w, c.Fields, w.field)
	writeList(w, c.Methods, w.method)
}

func (w *writer) field(f api.Field) {
	w.text(f.Name)
	w.text(f.Type)
	w.truth(f.Static)
}

func (w *writer) method(m api.Method) {
	w.text(m.Name)
	writeList(w, m.Params, w.text)
	w.text(m.Ret)
	w.truth(m.Static)
	w.truth(m.Abstract)
	w.number(m.Locals)
	w.number(m.Stack)
	writeList(w, m.Code, w.instruction)
	writeList(w, m.Maps, w.stackMap)
	writeList(w, m.Traps, w.trap)
}

func (w *writer) instruction(x api.Ins) {
	w.number(x.Op)
	w.number(x.A)
	w.text(x.C)
	w.text(x.M)
}

func (w *writer) stackMap(m api.Map) {
	w.number(m.At)
	writeList(w, m.Locals, w.text)
	writeList(w, m.Stack, w.text)
}

func (w *writer) trap(t api.Trap) {
	w.number(t.From)
	w.number(t.To)
	w.number(t.At)
	w.text(t.C)
}
