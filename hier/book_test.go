package hier_test

import (
	"maps"
	"slices"
	"strings"

	"daguerre/api"
	"daguerre/class"
)

// A book is a set of classes that is gone through by names alone, one of the chapter's words behind the other.
type book []api.Class

func givenNames() []string {
	return []string{"Object", "Thrown", "NullErr", "RangeErr", "MathErr", "CastErr", "SizeErr", "StoreErr", "InitErr", "ClassErr"}
}

func bookOf(l []api.Class) book {
	b := book{cl("Object", ""), cl("Thrown", "Object"), cl("NullErr", "Thrown"), cl("RangeErr", "Thrown"), cl("MathErr", "Thrown"), cl("CastErr", "Thrown"), cl("SizeErr", "Thrown"), cl("StoreErr", "Thrown"), cl("InitErr", "Thrown"), cl("ClassErr", "Thrown")}
	return append(b, l...)
}

func (b book) names() []string {
	var list []string
	for _, c := range b {
		list = append(list, c.Name)
	}
	return list
}

func (b book) find(name string) (api.Class, bool) {
	for _, c := range b {
		if c.Name == name {
			return c, true
		}
	}
	return api.Class{}, false
}

func (b book) supers(name string) []string {
	c, ok := b.find(name)
	if !ok {
		return nil
	}
	return append([]string{name}, b.supers(c.Super)...)
}

func (b book) faces(name string) []string {
	seen := map[string]int{}
	var take func(name string)
	take = func(name string) {
		if _, ok := seen[name]; ok {
			return
		}
		seen[name] = 1
		c, _ := b.find(name)
		for _, s := range c.Impl {
			take(s)
		}
	}
	for _, s := range b.supers(name) {
		c, _ := b.find(s)
		for _, f := range c.Impl {
			take(f)
		}
	}
	if c, _ := b.find(name); c.Interface {
		take(name)
	}
	return slices.Sorted(maps.Keys(seen))
}

func (b book) isThere(t string) bool {
	inner := strings.TrimLeft(t, "[")
	_, ok := b.find(inner)
	return len(t)-len(inner) <= 2 && (inner == "I" || ok)
}

func (b book) sub(x, y string) bool {
	switch {
	case !b.isThere(x) || !b.isThere(y):
		return false
	case x == y:
		return true
	case x[0] == '[' && y[0] == '[':
		return x[1:] != "I" && y[1:] != "I" && b.sub(x[1:], y[1:])
	case x[0] == '[':
		return y == "Object"
	}
	return slices.Contains(b.supers(x), y) || slices.Contains(b.faces(x), y)
}

// comesFromItself goes step by step, as many as there are classes.
func (b book) comesFromItself(name string) bool {
	at := map[string]int{name: 1}
	for range b {
		next := map[string]int{}
		for s := range at {
			c, _ := b.find(s)
			for _, up := range append([]string{c.Super}, c.Impl...) {
				next[up] = 1
			}
		}
		if next[name] == 1 {
			return true
		}
		at = next
	}
	return false
}

func wantNew(l []api.Class) api.Errno {
	if len(l) > 16 {
		return api.ErrLimit
	}
	for i, c := range l {
		if !class.May(c) || slices.Contains(givenNames(), c.Name) {
			return api.ErrForm
		}
		for _, other := range l[:i] {
			if other.Name == c.Name {
				return api.ErrForm
			}
		}
	}
	b := bookOf(l)
	for _, c := range l {
		for _, s := range append([]string{c.Super}, c.Impl...) {
			if _, ok := b.find(s); !ok {
				return api.ErrMissing
			}
		}
	}
	for _, c := range l {
		if up, _ := b.find(c.Super); up.Interface || b.comesFromItself(c.Name) {
			return api.ErrForm
		}
		for _, s := range c.Impl {
			if f, _ := b.find(s); !f.Interface {
				return api.ErrForm
			}
		}
	}
	return api.OK
}
