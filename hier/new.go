package hier

import (
	"daguerre/api"
	"daguerre/class"
)

// set holds places in a Hier's classes: 10 given ones and at most 16 others.
type set uint32

func (s set) has(at int) bool { return s&(1<<at) != 0 }

func (s set) with(at int) set { return s | 1<<at }

// New lays the classes of l and the given ones together.
func New(l []api.Class) (*Hier, api.Errno) {
	if len(l) > api.MaxClasses {
		return nil, api.ErrLimit
	}
	h, ok := gather(l)
	if !ok {
		return nil, api.ErrForm
	}
	if !h.isWhole() {
		return nil, api.ErrMissing
	}
	h.climb()
	if !h.isOrdered() {
		return nil, api.ErrForm
	}
	return h, api.OK
}

// given makes the given classes anew, so that nobody shares them.
func given() []api.Class {
	list := []api.Class{{Name: object}, {Name: thrown, Super: object}}
	for _, name := range []string{"NullErr", "RangeErr", "MathErr", "CastErr", "SizeErr", "StoreErr", "InitErr", "ClassErr"} {
		list = append(list, api.Class{Name: name, Super: thrown})
	}
	return list
}

// gather takes the given classes and copies of those of l; false: one may not be, or has a name that is taken.
func gather(l []api.Class) (*Hier, bool) {
	h := &Hier{places: map[string]int{}}
	for _, c := range given() {
		h.add(c)
	}
	for _, c := range l {
		if _, taken := h.place(c.Name); taken || !class.May(c) {
			return nil, false
		}
		h.add(copyOf(c))
	}
	return h, true
}

func (h *Hier) add(c api.Class) {
	h.places[c.Name] = len(h.classes)
	h.classes = append(h.classes, c)
}

// isWhole: is each Super and each Impl there?
func (h *Hier) isWhole() bool {
	for _, c := range h.classes {
		for _, name := range parents(c) {
			if _, ok := h.place(name); !ok {
				return false
			}
		}
	}
	return true
}

// climb reckons what each class comes from, in any number of steps (Warshall's way).
// Rings do it no harm: it ends, and each class of a ring comes from itself.
func (h *Hier) climb() {
	h.above = make([]set, len(h.classes))
	for at, c := range h.classes {
		for _, name := range parents(c) {
			h.above[at] = h.above[at].with(h.places[name])
		}
	}
	for by := range h.above {
		for at := range h.above {
			if h.above[at].has(by) {
				h.above[at] |= h.above[by]
			}
		}
	}
}

// isOrdered: is each Super a class, each Impl an interface, and does none come from itself?
func (h *Hier) isOrdered() bool {
	for at, c := range h.classes {
		if h.isFace(c.Super) || h.above[at].has(at) {
			return false
		}
		for _, name := range c.Impl {
			if !h.isFace(name) {
				return false
			}
		}
	}
	return true
}

func (h *Hier) isFace(name string) bool {
	at, ok := h.place(name)
	return ok && h.classes[at].Interface
}

// parents answers the names that c comes from in one step.
func parents(c api.Class) []string {
	if c.Name == object {
		return nil
	}
	return append([]string{c.Super}, c.Impl...)
}
