package link_test

import (
	"slices"

	"daguerre/api"
)

// A book is a set of classes that is gone through by names alone, one of the chapter's words behind the other.
type book map[string]api.Class

func bookOf(l []api.Class) book {
	b := book{"Object": cl("Object", ""), "Thrown": cl("Thrown", "Object")}
	for _, name := range givenNames()[2:] {
		b[name] = cl(name, "Thrown")
	}
	for _, c := range l {
		b[c.Name] = c
	}
	return b
}

func (b book) field(c, name string) (string, api.Field) {
	at, ok := b[c]
	if !ok {
		return "", api.Field{}
	}
	for _, f := range at.Fields {
		if f.Name == name {
			return c, f
		}
	}
	return b.field(at.Super, name)
}

func (b book) method(c, name string) (string, api.Method) {
	at, ok := b[c]
	if !ok || name == "$init" {
		return "", api.Method{}
	}
	for _, m := range at.Methods {
		if m.Name == name {
			return c, m
		}
	}
	return b.method(at.Super, name)
}

// above gives all interfaces that the interface c comes from, in any order, as often as there are ways.
func (b book) above(c string) []string {
	list := slices.Clone(b[c].Impl)
	for _, s := range b[c].Impl {
		list = append(list, b.above(s)...)
	}
	return list
}

func (b book) face(c, name string) (string, api.Method) {
	if !b[c].Interface {
		return "", api.Method{}
	}
	others := b.above(c)
	slices.Sort(others)
	for _, who := range append([]string{c}, others...) {
		for _, m := range b[who].Methods {
			if m.Name == name {
				return who, m
			}
		}
	}
	return "", api.Method{}
}

func (b book) chosen(c, name string) string {
	at, ok := b[c]
	if !ok || at.Interface {
		return ""
	}
	for _, m := range at.Methods {
		if m.Name == name && !m.Static {
			return c
		}
	}
	return b.chosen(at.Super, name)
}
