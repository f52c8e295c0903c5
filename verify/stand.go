package verify

import (
	"daguerre/kind"
	"daguerre/types"
)

// finds: do values of these types stand on the stack, the last one on top?
func (b *body) finds(asked ...string) bool {
	rest := len(b.stack) - len(asked)
	return rest >= 0 && types.All(b.h, b.stack[rest:], asked)
}

// takes takes values of these types off the stack, the last one from its top.
func (b *body) takes(asked ...string) bool {
	if !b.finds(asked...) {
		return false
	}
	b.stack = b.stack[:len(b.stack)-len(asked)]
	return true
}

// leaves puts these on the stack, the last one on top.
func (b *body) leaves(list ...string) bool {
	b.stack = append(b.stack, list...)
	return len(b.stack) <= b.method.Stack
}

// pop takes the topmost value, whatever it is.
func (b *body) pop() (string, bool) {
	last := len(b.stack) - 1
	if last < 0 {
		return "", false
	}
	t := b.stack[last]
	b.stack = b.stack[:last]
	return t, true
}

func (b *body) takesReference() bool {
	t, ok := b.pop()
	return ok && (t == null || kind.Ref(t))
}

func (b *body) takesArray() bool {
	t, ok := b.pop()
	_, isArray := kind.Elem(t)
	return ok && (t == null || isArray)
}

// takesReferences takes an array of references, and answers its elements' type.
func (b *body) takesReferences() (string, bool) {
	t, _ := b.pop()
	if t == null {
		return null, true
	}
	elem, _ := kind.Elem(t)
	return elem, kind.Ref(elem)
}

// isLocal: is a one of the method's locals?
func (b *body) isLocal(a int) bool {
	return 0 <= a && a < len(b.locals)
}
