package closed_test

import (
	"fmt"
	"slices"
	"strconv"
	"strings"
	"testing"

	"daguerre/api"
	"daguerre/closed"
	"daguerre/hier"
)

// opNames are the instructions' names as the tests write them, in the order of api's numbers, the first of which is 1.
const opNames = `const null load store pop dup swap add sub mul div rem neg and or xor shl shr ushr
goto ifeq ifne iflt ifge ifgt ifle cmpeq cmpne cmplt cmpge cmpgt cmple nil some same other
new getf putf gets puts calls callv callx calli ret iret aret
newi newa len iload istor aload astor cast inst throw in out exit`

func opOf(name string) int { return slices.Index(strings.Fields(opNames), name) + 1 }

// ins reads an instruction: "load 3", "getf Aa i", "ret". What is not known has no number, so that no class takes it.
func ins(s string) api.Ins {
	words := strings.Fields(s)
	x := api.Ins{Op: opOf(words[0])}
	for _, word := range words[1:] {
		switch n, err := strconv.Atoi(word); {
		case err == nil:
			x.A = n
		case x.C == "":
			x.C = word
		default:
			x.M = word
		}
	}
	return x
}

func code(s string) []api.Ins {
	var list []api.Ins
	for _, one := range strings.Split(s, ";") {
		list = append(list, ins(one))
	}
	return list
}

// class reads a class: "Bb Aa Ff Gg: field n I | static field all [Bb | f I Aa > I | static main = gets Bb all; pop; ret".
// Bb is of Aa and has Ff and Gg; the method f takes an int and an Aa and gives an int; what is not told to give a thing gives nothing.
// "face Ff Gg: f I > I" is an interface that has Gg. A method whose instructions aren't told throws null.
func class(text string) api.Class {
	head, members, _ := strings.Cut(text, ":")
	words := strings.Fields(head)
	c := api.Class{Super: "Object"}
	if words[0] == "face" {
		c.Interface, c.Name, c.Impl = true, words[1], words[2:]
	} else {
		c.Name, c.Super, c.Impl = words[0], words[1], words[2:]
	}
	if strings.TrimSpace(members) == "" {
		return c
	}
	for _, one := range strings.Split(members, "|") {
		addMember(&c, one)
	}
	return c
}

func addMember(c *api.Class, text string) {
	rest, isStatic := strings.CutPrefix(strings.TrimSpace(text), "static ")
	if f, ok := strings.CutPrefix(rest, "field "); ok {
		name, typ, _ := strings.Cut(f, " ")
		c.Fields = append(c.Fields, api.Field{Name: name, Type: typ, Static: isStatic})
		return
	}
	m := method(rest, isStatic)
	if c.Interface {
		m = api.Method{Name: m.Name, Params: m.Params, Ret: m.Ret, Abstract: true}
	}
	c.Methods = append(c.Methods, m)
}

// method reads a method: "f I Aa > I = const 1; iret".
func method(text string, isStatic bool) api.Method {
	head, body, ok := strings.Cut(text, "=")
	if !ok {
		body = "null; throw"
	}
	taken, ret, ok := strings.Cut(head, ">")
	if !ok {
		ret = "V"
	}
	words := strings.Fields(taken)
	m := api.Method{Name: words[0], Params: words[1:], Ret: strings.TrimSpace(ret), Static: isStatic, Stack: 4, Code: code(body)}
	m.Locals = len(m.Params) + 1
	if !isStatic {
		m.Locals++
	}
	return m
}

func set(texts ...string) []api.Class {
	var l []api.Class
	for _, text := range texts {
		l = append(l, class(text))
	}
	return l
}

// world gives a set that is in order, and which names things in all ways. Cc of Bb of Aa, Ee alone, Err of MathErr; Hh of Gg of Ff.
func world() []api.Class {
	return set(
		"Cc Bb Hh: f I > I | h > Aa | k = load 0; calli Hh h; pop; load 0; const; calli Gg f; pop; ret | static $init",
		"face Hh Gg Ff: h > Aa | f I > I",
		"Aa Object: field i I | field arr [[Bb | static field n I | static field o Ee | f I > I | g > [Cc | static s = gets Aa n; puts Aa n; ret | static $init = new Cc; pop; ret",
		"face Ff: f I > I | g > [Cc",
		"Bb Aa Gg: field i [I | static field b Ff | g > [Cc = load 0; callx Aa g; aret | j Err Gg = load 0; getf Bb arr; pop; load 0; getf Aa i; pop; ret | f I > I | static $init",
		"Err MathErr: field at I | j > I = load 0; const; putf Err at; const; iret",
		"Ee Object: field next Ee | static main = calls Cc s; new Ee; callv Ee do; null; inst [[Ff; pop; null; cast Err; pop; const; newa Hh; pop; ret | do | static twice I > I | give > Ee | static e = ret",
		"face Gg Ff: f I > I",
	)
}

// at gives the class of that name.
func at(l []api.Class, name string) *api.Class {
	for i := range l {
		if l[i].Name == name {
			return &l[i]
		}
	}
	panic("no such class: " + name)
}

// with gives world with one member more in that class.
func with(name, member string) []api.Class {
	l := world()
	addMember(at(l, name), member)
	return l
}

// main names a method of world that a program may begin with.
func main() api.Entry { return api.Entry{C: "Ee", M: "main"} }

func mustNew(t *testing.T, l []api.Class) *hier.Hier {
	t.Helper()
	h, err := hier.New(l)
	if err != api.OK {
		t.Fatalf("New = %v; want a Hier; of %v", err, l)
	}
	return h
}

// checkLinked holds Linked, what Check answers of the set and what the reckoning does against want, unless want is OK:
// then Check may still find a thing that Linked does not ask for.
func checkLinked(t *testing.T, what string, l []api.Class, want api.Errno) {
	t.Helper()
	if got := closed.Linked(mustNew(t, l)); got != want {
		t.Errorf("%s: Linked = %v; want %v", what, got, want)
	}
	if got := bookOf(l).linked(); got != want {
		t.Errorf("%s: the reckoning says %v; want %v", what, got, want)
	}
	got := checkTwice(t, what, l, main())
	if want != api.OK && got != want || want == api.OK && got != api.OK && got != api.ErrVerify && got != api.ErrMissing {
		t.Errorf("%s: Check = %v; Linked is to be %v", what, got, want)
	}
}

// check holds Check against want, and against the reckoning.
func check(t *testing.T, what string, l []api.Class, e api.Entry, want api.Errno) {
	t.Helper()
	if got := checkTwice(t, what, l, e); got != want {
		t.Errorf("%s: Check = %v; want %v", what, got, want)
	}
}

// checkTwice gives what Check answers, and holds its Hier and the reckoning against that.
func checkTwice(t *testing.T, what string, l []api.Class, e api.Entry) api.Errno {
	t.Helper()
	h, err := closed.Check(l, e)
	if (h != nil) != (err == api.OK) {
		t.Errorf("%s: Check = a Hier %v, %v", what, h != nil, err)
	}
	if want := wantCheck(l, e); err != want {
		t.Errorf("%s: Check = %v; the reckoning says %v", what, err, want)
	}
	if h != nil && told(h) != told(mustNew(t, l)) {
		t.Errorf("%s: Check = another Hier than that of New", what)
	}
	return err
}

// told gives all that a Hier says of its classes.
func told(h *hier.Hier) string {
	var s strings.Builder
	for _, name := range h.Names() {
		c, ok := h.Class(name)
		fmt.Fprintln(&s, c, ok, h.Supers(name), h.Faces(name))
	}
	return s.String()
}

func givenNames() []string {
	return []string{"Object", "Thrown", "NullErr", "RangeErr", "MathErr", "CastErr", "SizeErr", "StoreErr", "InitErr", "ClassErr"}
}

// dice gives numbers that are the same at each run.
type dice uint64

func (d *dice) below(n int) int {
	*d = *d*6364136223846793005 + 1442695040888963407
	return int(uint64(*d)>>33) % n
}

func (d *dice) of(list []string) string { return list[d.below(len(list))] }
