package closed_test

import (
	"slices"
	"strings"

	"daguerre/api"
	"daguerre/hier"
	"daguerre/verify"
)

// A book is a set of classes that is gone through by names alone, one of the chapter's words behind the other.
type book []api.Class

func bookOf(l []api.Class) book {
	b := book{{Name: "Object"}, {Name: "Thrown", Super: "Object"}}
	for _, name := range givenNames()[2:] {
		b = append(b, api.Class{Name: name, Super: "Thrown"})
	}
	return append(b, l...)
}

func (b book) find(name string) (api.Class, bool) {
	for _, c := range b {
		if c.Name == name {
			return c, true
		}
	}
	return api.Class{}, false
}

func (b book) supers(name string) []api.Class {
	c, ok := b.find(name)
	if !ok {
		return nil
	}
	return append([]api.Class{c}, b.supers(c.Super)...)
}

// isOf: is the class x the interface f, or of it?
func (b book) isOf(x, f string) bool {
	c, ok := b.find(x)
	if !ok {
		return false
	}
	for _, impl := range c.Impl {
		if b.isOf(impl, f) {
			return true
		}
	}
	return c.Interface && x == f || b.isOf(c.Super, f)
}

func (b book) faces(name string) []api.Class {
	var list []api.Class
	for _, f := range b {
		if b.isOf(name, f.Name) {
			list = append(list, f)
		}
	}
	return list
}

func (b book) isThere(t string) bool {
	inner := strings.TrimLeft(t, "[")
	_, ok := b.find(inner)
	return ok || inner == "I"
}

// namesTypes gives all types that c names, but not those of its Maps.
func namesTypes(c api.Class) []string {
	var list []string
	for _, f := range c.Fields {
		list = append(list, f.Type)
	}
	for _, m := range c.Methods {
		list = append(list, m.Params...)
		if m.Ret != "V" {
			list = append(list, m.Ret)
		}
		for _, trap := range m.Traps {
			if trap.C != "" {
				list = append(list, trap.C)
			}
		}
		for _, x := range m.Code {
			if x.Op >= api.ONew && x.Op <= api.OCalli || x.Op == api.ONewa || x.Op == api.OCast || x.Op == api.OInst {
				list = append(list, x.C)
			}
		}
	}
	return list
}

func hasField(c api.Class, name string) bool {
	return slices.ContainsFunc(c.Fields, func(f api.Field) bool { return f.Name == name })
}

func hasMethod(c api.Class, name string) bool {
	return slices.ContainsFunc(c.Methods, func(m api.Method) bool { return m.Name == name })
}

// finds: is the field or the method there that x names?
func (b book) finds(x api.Ins) bool {
	c, _ := b.find(x.C)
	switch x.Op {
	case api.OGetf, api.OPutf, api.OGets, api.OPuts:
		return slices.ContainsFunc(b.supers(x.C), func(up api.Class) bool { return hasField(up, x.M) })
	case api.OCalls, api.OCallv, api.OCallx:
		return !c.Interface && slices.ContainsFunc(b.supers(x.C), func(up api.Class) bool { return hasMethod(up, x.M) })
	case api.OCalli:
		return c.Interface && slices.ContainsFunc(b.faces(x.C), func(f api.Class) bool { return hasMethod(f, x.M) })
	}
	return true
}

func (b book) isMissing(c api.Class) bool {
	for _, t := range namesTypes(c) {
		if !b.isThere(t) {
			return true
		}
	}
	for _, m := range c.Methods {
		for _, x := range m.Code {
			if !b.finds(x) {
				return true
			}
		}
	}
	return false
}

func isAlike(a, b api.Method) bool {
	return strings.Join(a.Params, " ") == strings.Join(b.Params, " ") && a.Ret == b.Ret
}

// writtenWrong: does a method of c stand wrongly with one of any class above it?
func (b book) writtenWrong(c api.Class) bool {
	for _, up := range b.supers(c.Name)[1:] {
		for _, above := range up.Methods {
			for _, m := range c.Methods {
				if m.Name == above.Name && m.Name != "$init" && (!isAlike(m, above) || m.Static || above.Static) {
					return true
				}
			}
		}
	}
	return false
}

// chosen gives the method of that name that is called of an object of the class.
func (b book) chosen(c, name string) (api.Method, bool) {
	for _, up := range b.supers(c) {
		for _, m := range up.Methods {
			if m.Name == name && !m.Static {
				return m, true
			}
		}
	}
	return api.Method{}, false
}

func (b book) lacksFace(c api.Class) bool {
	if c.Interface {
		return false
	}
	for _, f := range b.faces(c.Name) {
		for _, m := range f.Methods {
			if own, ok := b.chosen(c.Name, m.Name); !ok || !isAlike(own, m) {
				return true
			}
		}
	}
	return false
}

// quarrels: have two of c's Faces one name of methods that are not alike?
func (b book) quarrels(c api.Class) bool {
	var all []api.Method
	for _, f := range b.faces(c.Name) {
		all = append(all, f.Methods...)
	}
	for _, x := range all {
		for _, y := range all {
			if x.Name == y.Name && !isAlike(x, y) {
				return true
			}
		}
	}
	return false
}

func (b book) linked() api.Errno {
	if slices.ContainsFunc(b, b.isMissing) {
		return api.ErrMissing
	}
	if slices.ContainsFunc(b, b.writtenWrong) || slices.ContainsFunc(b, b.lacksFace) || slices.ContainsFunc(b, b.quarrels) {
		return api.ErrForm
	}
	return api.OK
}

func (b book) begins(e api.Entry) bool {
	for _, up := range b.supers(e.C) {
		for _, m := range up.Methods {
			if m.Name == e.M && m.Name != "$init" {
				return m.Static && len(m.Params) == 0 && m.Ret == "V"
			}
		}
	}
	return false
}

// wantCheck takes what hier.New and verify.Method say as it is.
func wantCheck(l []api.Class, e api.Entry) api.Errno {
	h, err := hier.New(l)
	if err != api.OK {
		return err
	}
	b := bookOf(l)
	if err := b.linked(); err != api.OK {
		return err
	}
	if !b.begins(e) {
		return api.ErrMissing
	}
	for _, c := range l {
		for i, m := range c.Methods {
			if !m.Abstract && !verify.Method(h, c.Name, i) {
				return api.ErrVerify
			}
		}
	}
	return api.OK
}
