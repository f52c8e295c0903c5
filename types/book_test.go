package types_test

import (
	"regexp"
	"slices"

	"daguerre/api"
)

// A book is a set of classes that is gone through by names alone, one of the chapters' words behind the other.
// It asks neither hier nor kind.
type book map[string]api.Class

func bookOf(l []api.Class) book {
	b := book{"Object": cl("Object", ""), "Thrown": cl("Thrown", "Object")}
	for _, name := range givenNames()[2:] {
		b[name] = cl(name, "Thrown")
	}
	for _, c := range l {
		b[c.Name] = c
	}
	return b
}

var parts = regexp.MustCompile(`\A(\[{0,2})([A-Za-z0-9]+)\z`)

// cut gives a type's dimensions, and what stands in them.
func cut(t string) (int, string) {
	found := parts.FindStringSubmatch(t)
	if found == nil {
		return 0, ""
	}
	return len(found[1]), found[2]
}

func (b book) isType(t string) bool {
	_, inner := cut(t)
	_, isClass := b[inner]
	return isClass || inner == "I"
}

func (b book) there(t string) bool {
	return t == "I" || t == "N" || t == "T" || b.isType(t)
}

func (b book) isReference(t string) bool { return t != "I" && b.isType(t) }

func (b book) fits(a, b2 string) bool {
	switch {
	case !b.there(a), !b.there(b2):
		return false
	case b2 == "T":
		return true
	case a == b2:
		return true
	case a == "N" && b.isReference(b2):
		return true
	case b.isReference(a) && b.isReference(b2):
		return b[b2].Interface || b.sub(a, b2)
	}
	return false
}

// sub goes by dimensions where hier goes by elements: what is left of a's, when b's are taken off, is an array or none.
func (b book) sub(a, b2 string) bool {
	deep, inner := cut(a)
	deep2, inner2 := cut(b2)
	switch {
	case deep < deep2:
		return false
	case deep > deep2:
		return inner2 == "Object"
	case inner == "I" || inner2 == "I":
		return inner == inner2
	}
	return slices.Contains(b.above(inner), inner2)
}

// above gives c and all that it comes from, as often as there are ways.
func (b book) above(c string) []string {
	list := []string{c}
	if super := b[c].Super; super != "" {
		list = append(list, b.above(super)...)
	}
	for _, s := range b[c].Impl {
		list = append(list, b.above(s)...)
	}
	return list
}

func (b book) all(x, y []string) bool {
	for len(x) > 0 && len(y) > 0 {
		if !b.fits(x[0], y[0]) {
			return false
		}
		x, y = x[1:], y[1:]
	}
	return len(x) == len(y)
}
