package verify_test

import (
	"fmt"
	"math"
	"slices"
	"strings"
	"testing"

	"daguerre/api"
	"daguerre/hier"
	"daguerre/verify"
)

// strange gives texts that are no class of world.
func strange() []string {
	return []string{
		"", "I", "N", "T", "V", "A", "Zz", "Nobody", "bb", "BB", "B", "Bbb", "Bb ", " Bb", "Bb\x00", "Bb.m", "$init", "[", "[[", "[Bb", "[[Bb", "[[[Bb", "[I", "\x00", "\xff", "Б",
		strings.Repeat("B", 5000), strings.Repeat("b", 5000), strings.Repeat("[", 5000) + "Bb",
	}
}

// numbers gives places of methods: all that are, and many that are not.
func numbers() []int {
	list := []int{math.MinInt, math.MinInt + 1, math.MinInt32, -1 << 16, -1000, math.MaxInt, math.MaxInt - 1, math.MaxInt32, math.MaxUint32, 1 << 16, 1000, 256}
	for i := -20; i <= 20; i++ {
		list = append(list, i)
	}
	return list
}

func TestOnlyMethodsThatAreThere(t *testing.T) {
	l := world()
	h := mustNew(t, l)
	for _, c := range l {
		for _, i := range numbers() {
			want := !c.Interface && i >= 0 && i < len(c.Methods) && c.Methods[max(0, i)].Ret != "Zz"
			if got := verify.Method(h, c.Name, i); got != want {
				t.Errorf("Method(%s, %d) = %v; want %v", c.Name, i, got, want)
			}
		}
	}
	for _, c := range append(strange(), givenNames()...) {
		for _, i := range numbers() {
			if verify.Method(h, c, i) {
				t.Errorf("Method(%.20q, %d) of none", c, i)
			}
		}
	}
}

// An interface's methods are all Abstract.
func TestAbstractMethods(t *testing.T) {
	list := []api.Method{abstract("a", "V", ""), abstract("b", "I", "I Aa"), abstract("c", "Zz", ""), abstract("d", "Ff", "Zz"), abstract("e", "[Aa", "[[I")}
	l, first := put("Ff", list...)
	h := mustNew(t, l)
	for i := range first + len(list) + 1 {
		if verify.Method(h, "Ff", i) {
			t.Errorf("Method(Ff, %d) may run", i)
		}
	}
}

func TestNoHier(t *testing.T) {
	for what, h := range map[string]*hier.Hier{"nil": nil, "zero": new(hier.Hier)} {
		for _, c := range slices.Concat(strange(), givenNames(), []string{"Aa", "Bb", "Cc", "Ee", "Ff"}) {
			for _, i := range numbers() {
				if verify.Method(h, c, i) {
					t.Errorf("Method(%s, %.20q, %d) of none", what, c, i)
				}
			}
		}
	}
	h := mustNew(t, nil)
	for _, c := range append(strange(), givenNames()...) {
		if verify.Method(h, c, 0) || verify.Method(h, c, -1) {
			t.Errorf("Method(%.20q) of the given classes alone", c)
		}
	}
}

// Each method of a class is asked by its own place, whatever the others are.
func TestEachMethodByItself(t *testing.T) {
	right, wrong := body("load 0; getf Bb b; pop; ret"), body("load 0; neg; ret")
	for n := range 32 {
		var list []api.Method
		for bit := range 5 {
			list = append(list, []api.Method{wrong, right}[n>>bit&1])
		}
		l, first := put("Bb", list...)
		h := mustNew(t, l)
		for bit := range 5 {
			if got, want := verify.Method(h, "Bb", first+bit), n>>bit&1 == 1; got != want {
				t.Errorf("%05b: method %d = %v; want %v", n, bit, got, want)
			}
		}
	}
}

// great gives methods as long as may be: a row of jumps with a Map each and all six Traps over all, and a row without.
func great() []api.Method {
	full := body("null; throw", "params I I I I I I", "locals 16", "stack 16")
	full.Code = nil
	locals := strings.Fields("Bb I I I I I I T T T T T T T T T")
	for at := range api.MaxCode - 2 {
		full.Code = append(full.Code, []api.Ins{ins("load 1"), ins("ifeq " + itoa(at*7%(api.MaxCode-2)/2*2))}[at%2])
		stack := []string{}
		if at%2 == 1 {
			stack = []string{"I"}
		}
		full.Maps = append(full.Maps, api.Map{At: at, Locals: locals, Stack: stack})
	}
	full.Code = append(full.Code, ins("null"), ins("throw"))
	full.Maps = append(full.Maps, api.Map{At: api.MaxCode - 2, Locals: locals}, api.Map{At: api.MaxCode - 1, Locals: slices.Repeat([]string{"T"}, 16), Stack: []string{"Thrown"}})
	for range api.MaxTraps {
		full.Traps = append(full.Traps, api.Trap{From: 0, To: api.MaxCode, At: api.MaxCode - 1})
	}
	plain := body(strings.Repeat("load 0; pop; ", api.MaxCode/2-1)+"null; throw", "locals 16", "stack 1")
	wide := body("null; throw", "locals 16", "stack 16")
	wide.Code = code(strings.Repeat("const 1; ", 16) + strings.Repeat("store 15; ", 16) + strings.Repeat("load 15; ", 16) + strings.Repeat("add; ", 15) + "exit")
	return []api.Method{full, plain, wide}
}

func TestGreatMethods(t *testing.T) {
	for _, m := range great() {
		checkIn(t, "Bb", m, true)
		last := len(m.Code) - 2
		for _, worse := range []string{"add", "load 14", "aload", "new Zz", "gets Aa i", "calls Aa two"} {
			x := m
			x.Code = slices.Clone(m.Code)
			x.Code[last] = ins(worse)
			checkIn(t, "Bb", x, worse == "add" && len(m.Code) == 64)
		}
	}
}

// classesOf gives the Hier's classes as hier hands them out.
func classesOf(h *hier.Hier) string {
	var s strings.Builder
	for _, name := range h.Names() {
		c, ok := h.Class(name)
		fmt.Fprintln(&s, c, ok, h.Supers(name), h.Faces(name))
	}
	return s.String()
}

// rich gives world with methods that may run and some that may not, in two classes.
func rich() []api.Class {
	l, _ := put("Bb",
		body("load 1; store 3; load 3; pop; ret; throw", "map 5: Bb I Aa T / Thrown", "trap 0 5 5"),
		body("const 9; store 3; load 3; ifle 8; load 3; neg; store 3; goto 2; ret; throw", "map 2: Bb T T I /", "map 8: T T T T /", "map 9: Bb T T I / MathErr", "trap 2 8 9 Err"),
		body("load 0; getf Bb b; pop; load 0; callv Bb own; neg; pop; ret"),
		body("gets Aa o; putf Aa a; ret"),
		great()[0])
	return l
}

// all gives what Method says of everything.
func all(h *hier.Hier) string {
	var s strings.Builder
	for _, c := range append(h.Names(), "Zz", "Aa", "Bb", "Cc", "Ff") {
		for i := -1; i <= api.MaxMethods; i++ {
			fmt.Fprintln(&s, c, i, verify.Method(h, c, i))
		}
	}
	return s.String()
}

func TestAskingChangesNothing(t *testing.T) {
	l := rich()
	before := fmt.Sprint(l)
	h := mustNew(t, l)
	classes, first := classesOf(h), all(h)
	for range 3 {
		if all(h) != first {
			t.Error("asked again: another answer")
		}
	}
	if classesOf(h) != classes || fmt.Sprint(l) != before {
		t.Error("asking changed the classes")
	}
	if n := strings.Count(first, "true"); n < 12 || !strings.Contains(first, "Bb 3 true\nBb 4 true\nBb 5 true\nBb 6 false\nBb 7 true\n") {
		t.Errorf("%d may run: %s", n, first)
	}
}

// Whoever turns the classes that New was handed turns no answer.
func TestNothingHangsOnTheClassesHandedIn(t *testing.T) {
	l := rich()
	h := mustNew(t, l)
	before := all(h)
	for i := range l {
		for k := range l[i].Methods {
			m := &l[i].Methods[k]
			for n := range m.Params {
				m.Params[n] = "Zz"
			}
			for n := range m.Code {
				m.Code[n] = ins("add")
			}
			for n := range m.Maps {
				m.Maps[n].At = 77
				for j := range m.Maps[n].Locals {
					m.Maps[n].Locals[j] = "Zz"
				}
				for j := range m.Maps[n].Stack {
					m.Maps[n].Stack[j] = "Zz"
				}
			}
			for n := range m.Traps {
				m.Traps[n] = api.Trap{From: 5, To: 1, At: 99, C: "Zz"}
			}
			*m = api.Method{Name: "turned"}
		}
		for k := range l[i].Fields {
			l[i].Fields[k] = api.Field{}
		}
		l[i] = api.Class{Name: "Turned"}
	}
	if all(h) != before || all(mustNew(t, rich())) != before {
		t.Error("turning the classes turned the answers")
	}
}

// Hiers that are asked by turns, with other classes of the same names.
func TestNothingIsKeptOfAnotherHier(t *testing.T) {
	one := mustNew(t, rich())
	l := rich()
	for i := range l {
		if l[i].Name == "Aa" || l[i].Name == "Bb" {
			l[i].Fields = nil
		}
	}
	two := mustNew(t, l)
	three := mustNew(t, []api.Class{{Name: "Bb", Super: "Object", Methods: []api.Method{body("load 0; aret", "ret Bb", "params")}}, cl("Aa", "Bb")})
	first, second, third, last := all(one), all(two), all(three), all(nil)
	if first == second || second == third || third == first || third == last {
		t.Fatal("the sets are too much alike")
	}
	for range 2 {
		for _, x := range []struct {
			h    *hier.Hier
			want string
		}{{one, first}, {two, second}, {nil, last}, {three, third}, {two, second}, {one, first}} {
			if all(x.h) != x.want {
				t.Error("another answer")
			}
		}
	}
}
