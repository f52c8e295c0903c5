package verify

import (
	"slices"

	"daguerre/api"
	"daguerre/kind"
	"daguerre/link"
	"daguerre/types"
)

// does: does x find what it takes, and is there room for what it leaves? api's numbers stand in groups.
func (b *body) does(x api.Ins) bool {
	switch {
	case x.Op <= api.OSwap:
		return b.moves(x)
	case x.Op <= api.OUshr:
		return b.reckons(x)
	case x.Op <= api.OOther:
		return b.asks(x)
	case x.Op == api.ONew:
		return b.makes(x)
	case x.Op <= api.OPuts:
		return b.fields(x)
	case x.Op <= api.OCalli:
		return b.calls(x)
	case x.Op <= api.OAret:
		return b.returns(x)
	case x.Op <= api.OAstor:
		return b.arrays(x)
	}
	return b.other(x)
}

// moves: what is put on the stack, turned there, and carried to and from the locals.
func (b *body) moves(x api.Ins) bool {
	switch x.Op {
	case api.OConst:
		return b.leaves(number)
	case api.ONull:
		return b.leaves(null)
	case api.OLoad:
		return b.isLocal(x.A) && b.locals[x.A] != noUse && b.leaves(b.locals[x.A])
	case api.OStore:
		return b.stores(x.A)
	case api.OPop:
		_, ok := b.pop()
		return ok
	case api.ODup:
		t, ok := b.pop()
		return ok && b.leaves(t, t)
	}
	upper, _ := b.pop()
	lower, ok := b.pop()
	return ok && b.leaves(upper, lower)
}

func (b *body) stores(a int) bool {
	t, ok := b.pop()
	if !ok || !b.isLocal(a) {
		return false
	}
	b.locals[a] = t
	return true
}

func (b *body) reckons(x api.Ins) bool {
	if x.Op == api.ONeg {
		return b.takes(number) && b.leaves(number)
	}
	return b.takes(number, number) && b.leaves(number)
}

// asks: what a jump asks of the stack.
func (b *body) asks(x api.Ins) bool {
	switch {
	case x.Op == api.OGoto:
		return true
	case x.Op <= api.OIfle:
		return b.takes(number)
	case x.Op <= api.OCmple:
		return b.takes(number, number)
	case x.Op <= api.OSome:
		return b.takesReference()
	}
	return b.takesReference() && b.takesReference()
}

func (b *body) makes(x api.Ins) bool {
	of, ok := b.h.Class(x.C)
	return ok && !of.Interface && b.leaves(x.C)
}

// fields: what is read from a field, and written there.
func (b *body) fields(x api.Ins) bool {
	_, f, ok := link.Field(b.h, x.C, x.M)
	static := x.Op == api.OGets || x.Op == api.OPuts
	if !ok || f.Static != static {
		return false
	}
	switch x.Op {
	case api.OGetf:
		return b.takes(x.C) && b.leaves(f.Type)
	case api.OPutf:
		return b.takes(x.C, f.Type)
	case api.OGets:
		return b.leaves(f.Type)
	}
	return b.takes(f.Type)
}

func (b *body) calls(x api.Ins) bool {
	who, m, ok := b.called(x)
	if !ok {
		return false
	}
	if x.Op == api.OCalls {
		return b.takes(m.Params...) && b.gives(m.Ret)
	}
	if x.Op == api.OCallx && !b.isAbove(who, m) {
		return false
	}
	return b.takes(withObject(x.C, m)...) && b.gives(m.Ret)
}

// called answers the method that x names, and the class that has it.
func (b *body) called(x api.Ins) (string, api.Method, bool) {
	if x.Op == api.OCalli {
		return link.Face(b.h, x.C, x.M)
	}
	who, m, ok := link.Method(b.h, x.C, x.M)
	if x.Op == api.OCalls {
		return who, m, ok && m.Static
	}
	of, _ := b.h.Class(x.C)
	return who, m, ok && !m.Static && !of.Interface
}

// isAbove: is m a method of who that c has, too, and is it called of an object of c?
// Else a method that a class below has written anew could be passed by from outside.
func (b *body) isAbove(who string, m api.Method) bool {
	return slices.Contains(b.h.Supers(b.c), who) && b.finds(withObject(b.c, m)...)
}

// withObject answers what m, called of an object of c, takes.
func withObject(c string, m api.Method) []string {
	return append([]string{c}, m.Params...)
}

func (b *body) gives(ret string) bool {
	return ret == nothing || b.leaves(ret)
}

func (b *body) returns(x api.Ins) bool {
	ret := b.method.Ret
	switch x.Op {
	case api.ORet:
		return ret == nothing
	case api.OIret:
		return ret == number && b.takes(number)
	}
	return kind.Ref(ret) && b.takes(ret)
}

// arrays: what makes an array, and reads and writes its elements.
func (b *body) arrays(x api.Ins) bool {
	switch x.Op {
	case api.ONewi:
		return b.takes(number) && b.leaves(ints)
	case api.ONewa:
		array := kind.Array(x.C)
		return types.There(b.h, array) && b.takes(number) && b.leaves(array)
	case api.OLen:
		return b.takesArray() && b.leaves(number)
	case api.OIload:
		return b.takes(ints, number) && b.leaves(number)
	case api.OIstor:
		return b.takes(ints, number, number)
	case api.OAload:
		return b.takes(number) && b.loads()
	}
	return b.takesReference() && b.takes(number) && b.fills()
}

// loads takes an array of references and leaves one of its elements.
func (b *body) loads() bool {
	elem, ok := b.takesReferences()
	return ok && b.leaves(elem)
}

// fills takes an array of references. (Whether the element may stand in it is seen when it runs.)
func (b *body) fills() bool {
	_, ok := b.takesReferences()
	return ok
}

func (b *body) other(x api.Ins) bool {
	switch x.Op {
	case api.OCast:
		return types.There(b.h, x.C) && b.takesReference() && b.leaves(x.C)
	case api.OInst:
		return types.There(b.h, x.C) && b.takesReference() && b.leaves(number)
	case api.OThrow:
		return b.takes(thrown)
	case api.OIn:
		return b.leaves(number)
	case api.OOut, api.OExit:
		return b.takes(number)
	}
	return false
}
