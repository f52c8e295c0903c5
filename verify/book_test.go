package verify_test

import (
	"slices"
	"strings"

	"daguerre/api"
)

// A book is a set of classes that is gone through by names alone, one of the chapters' words behind the other.
// It asks no package but api.
type book map[string]api.Class

func bookOf(l []api.Class) book {
	b := book{"Object": cl("Object", ""), "Thrown": cl("Thrown", "Object")}
	for _, name := range givenNames()[2:] {
		b[name] = cl(name, "Thrown")
	}
	for _, c := range l {
		b[c.Name] = c
	}
	return b
}

// inner gives what stands in an array of up to two dimensions.
func inner(t string) string {
	return strings.TrimPrefix(strings.TrimPrefix(t, "["), "[")
}

func (b book) isType(t string) bool {
	_, isClass := b[inner(t)]
	return isClass || inner(t) == "I"
}

func (b book) there(t string) bool { return t == "N" || t == "T" || b.isType(t) }

// mayRefer: is t the text of a reference's type, be it there or not?
func mayRefer(t string) bool { return len(t) > 1 }

func (b book) fits(x, y string) bool {
	switch {
	case !b.there(x), !b.there(y):
		return false
	case y == "T", x == y:
		return true
	case !mayRefer(y):
		return false
	}
	return x == "N" || mayRefer(x) && (b[y].Interface || b.sub(x, y))
}

func (b book) sub(x, y string) bool {
	if x[0] == '[' && y[0] == '[' && x != y {
		return mayRefer(x[1:]) && mayRefer(y[1:]) && b.sub(x[1:], y[1:])
	}
	return x == y || x[0] == '[' && y == "Object" || slices.Contains(b.above(x), y)
}

// above gives c and all that it comes from, as often as there are ways.
func (b book) above(c string) []string {
	at, ok := b[c]
	if !ok {
		return nil
	}
	list := append([]string{c}, b.above(at.Super)...)
	for _, s := range at.Impl {
		list = append(list, b.above(s)...)
	}
	return list
}

func (b book) field(c, name string) (api.Field, bool) {
	for at, ok := b[c]; ok; at, ok = b[at.Super] {
		for _, f := range at.Fields {
			if f.Name == name {
				return f, true
			}
		}
	}
	return api.Field{}, false
}

func (b book) method(c, name string) (string, api.Method, bool) {
	for at, ok := b[c]; ok; at, ok = b[at.Super] {
		for _, m := range at.Methods {
			if m.Name == name {
				return at.Name, m, true
			}
		}
	}
	return "", api.Method{}, false
}

// face looks into the interfaces above c in the order of their names; c itself is first.
func (b book) face(c, name string) (api.Method, bool) {
	others := b.above(c)
	slices.Sort(others)
	for _, who := range append([]string{c}, others...) {
		for _, m := range b[who].Methods {
			if m.Name == name && b[c].Interface {
				return m, true
			}
		}
	}
	return api.Method{}, false
}

// rows is the chapter's table. Of the words in it, a and b are any two types, L is what the local is, C what the
// instruction names, F the field's type, P the method's Params, R what it gives, Ret what the method that is checked
// gives, A the array of C, E the elements of the array that is taken; ref, refs and array are what they say.
const rows = `
const | | I
null | | N
load | | L
store | a |
pop | a |
dup | a | a a
swap | a b | b a
add sub mul div rem and or xor shl shr ushr | I I | I
neg | I | I
goto | |
ifeq ifne iflt ifge ifgt ifle | I |
cmpeq cmpne cmplt cmpge cmpgt cmple | I I |
nil some | ref |
same other | ref ref |
new | | C
getf | C | F
putf | C F |
gets | | F
puts | F |
calls | P | R
callv callx calli | C P | R
ret | |
iret | I |
aret | Ret |
newi | I | [I
newa | I | A
len | array | I
iload | [I I | I
istor | [I I I |
aload | refs I | E
astor | refs I ref |
cast | ref | C
inst | ref | I
throw | Thrown |
in | | I
out exit | I |
`

// A row's words as they are for one instruction.
type sense map[string][]string

// A line is a row of one instruction.
type line struct{ takes, leaves []string }

var lines = func() map[string]line {
	all := map[string]line{}
	for _, text := range strings.Split(strings.TrimSpace(rows), "\n") {
		cells := strings.Split(text, "|")
		for _, name := range strings.Fields(cells[0]) {
			all[name] = line{strings.Fields(cells[1]), strings.Fields(cells[2])}
		}
	}
	return all
}()

func (s sense) all(words []string) []string {
	var list []string
	for _, word := range words {
		if meant, ok := s[word]; ok {
			list = append(list, meant...)
		} else {
			list = append(list, word)
		}
	}
	return list
}

// stand is what stands in the locals and on the stack.
type stand struct{ locals, stack []string }

// work is a method of c that is reckoned.
type work struct {
	book
	c string
	m api.Method
}

// sense gives what the words of x's row are, as far as x says it; false: what x names may not stand there.
func (w work) sense(x api.Ins, locals []string) (sense, bool) {
	s := sense{"C": {x.C}, "A": {"[" + x.C}, "Ret": {w.m.Ret}}
	of, isClass := w.book[x.C]
	switch name := nameOf(x.Op); name {
	case "load":
		if x.A >= len(locals) || locals[x.A] == "T" {
			return nil, false
		}
		s["L"] = []string{locals[x.A]}
	case "store":
		return s, x.A < len(locals)
	case "new":
		return s, isClass && !of.Interface
	case "getf", "putf", "gets", "puts":
		f, ok := w.field(x.C, x.M)
		s["F"] = []string{f.Type}
		return s, ok && f.Static == (name == "gets" || name == "puts")
	case "calls", "callv", "callx", "calli":
		return w.callee(name, x, s)
	case "ret":
		return s, w.m.Ret == "V"
	case "iret":
		return s, w.m.Ret == "I"
	case "aret":
		return s, mayRefer(w.m.Ret)
	case "newa":
		return s, w.isType("[" + x.C)
	case "cast", "inst":
		return s, w.isType(x.C)
	}
	return s, true
}

func (w work) callee(name string, x api.Ins, s sense) (sense, bool) {
	who, m, ok := w.method(x.C, x.M)
	if name == "calli" {
		m, ok = w.face(x.C, x.M)
	}
	s["P"], s["R"] = m.Params, []string{m.Ret}
	if m.Ret == "V" {
		s["R"] = nil
	}
	switch name {
	case "calls":
		return s, ok && m.Static
	case "calli":
		return s, ok
	}
	isOwn := name == "callv" || !w.book[who].Interface && slices.Contains(w.above(w.c), who)
	return s, ok && !m.Static && !w.book[x.C].Interface && isOwn
}

// finds: is t what the word asks? Words that are any type's are told to s.
func (w work) finds(t, word string, s sense) bool {
	isArray := len(t) > 1 && t[0] == '['
	switch word {
	case "a", "b":
		s[word] = []string{t}
		return true
	case "ref":
		return t == "N" || mayRefer(t)
	case "array":
		return t == "N" || isArray
	case "refs":
		s["E"] = []string{"N"}
		if isArray {
			s["E"] = []string{t[1:]}
		}
		return t == "N" || isArray && mayRefer(t[1:])
	}
	return w.fits(t, word)
}

// step gives what x leaves; false: it does not find what it takes.
func (w work) step(from stand, x api.Ins) (stand, bool) {
	s, ok := w.sense(x, from.locals)
	takes, leaves := s.all(lines[nameOf(x.Op)].takes), lines[nameOf(x.Op)].leaves
	rest := len(from.stack) - len(takes)
	if !ok || rest < 0 {
		return stand{}, false
	}
	for i, word := range takes {
		if !w.finds(from.stack[rest+i], word, s) {
			return stand{}, false
		}
	}
	if nameOf(x.Op) == "callx" && !w.fits(from.stack[rest], w.c) {
		return stand{}, false
	}
	to := stand{slices.Clone(from.locals), append(slices.Clone(from.stack[:rest]), s.all(leaves)...)}
	if nameOf(x.Op) == "store" {
		to.locals[x.A] = s["a"][0]
	}
	return to, len(to.stack) <= w.m.Stack
}

func ends(x api.Ins) bool {
	return slices.Contains([]string{"goto", "ret", "iret", "aret", "throw", "exit"}, nameOf(x.Op))
}

func jumps(x api.Ins) bool { return api.OGoto <= x.Op && x.Op <= api.OOther }

func (w work) begin() stand {
	var s stand
	if !w.m.Static {
		s.locals = []string{w.c}
	}
	s.locals = append(s.locals, w.m.Params...)
	return stand{append(s.locals, slices.Repeat([]string{"T"}, w.m.Locals-len(s.locals))...), nil}
}

func (w work) mapAt(at int) (stand, bool) {
	for _, x := range w.m.Maps {
		if x.At == at {
			return stand{x.Locals, x.Stack}, true
		}
	}
	return stand{}, false
}

// comes gives what comes to the instruction at from the one ahead; false: nothing does.
func (w work) comes(at int) (stand, bool) {
	if at == 0 {
		return w.begin(), true
	}
	from, ok := w.ahead(at - 1)
	if !ok || ends(w.m.Code[at-1]) {
		return stand{}, false
	}
	return w.step(from, w.m.Code[at-1])
}

// ahead gives what stands ahead of the instruction at; false: nobody knows.
func (w work) ahead(at int) (stand, bool) {
	if s, ok := w.mapAt(at); ok {
		return s, true
	}
	return w.comes(at)
}

// goes: may s go on at the Map of the instruction at, which must be there?
func (w work) goes(s stand, at int) bool {
	to, ok := w.mapAt(at)
	return ok && slices.EqualFunc(s.locals, to.locals, w.fits) && slices.EqualFunc(s.stack, to.stack, w.fits)
}

func (w work) allThere() bool {
	list := slices.Clone(w.m.Params)
	if w.m.Ret != "V" {
		list = append(list, w.m.Ret)
	}
	for _, x := range w.m.Maps {
		list = append(append(list, x.Locals...), x.Stack...)
	}
	return !slices.ContainsFunc(list, func(t string) bool { return !w.there(t) })
}

// runs: may m, as a method of c, run?
func (b book) runs(c string, m api.Method) bool {
	w := work{b, c, m}
	if !w.allThere() {
		return false
	}
	for at, x := range m.Code {
		s, ok := w.ahead(at)
		if !ok {
			return false
		}
		to, ok := w.step(s, x)
		if !ok || jumps(x) && !w.goes(to, x.A) {
			return false
		}
		coming, ok := w.comes(at)
		if _, has := w.mapAt(at); has && ok && !w.goes(coming, at) {
			return false
		}
		for _, trap := range m.Traps {
			if trap.From <= at && at < trap.To && !w.falls(s, trap) {
				return false
			}
		}
	}
	return true
}

func (w work) falls(s stand, trap api.Trap) bool {
	c := trap.C
	if c == "" {
		c = "Thrown"
	}
	return slices.Contains(w.above(c), "Thrown") && w.goes(stand{s.locals, []string{c}}, trap.At)
}
