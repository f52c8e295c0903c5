package verify_test

import (
	"fmt"
	"slices"
	"strconv"
	"strings"
	"testing"

	"daguerre/api"
	"daguerre/hier"
	"daguerre/verify"
)

// opNames are the instructions' names as the tests write them, in the order of api's numbers, the first of which is 1.
const opNames = `const null load store pop dup swap add sub mul div rem neg and or xor shl shr ushr
goto ifeq ifne iflt ifge ifgt ifle cmpeq cmpne cmplt cmpge cmpgt cmple nil some same other
new getf putf gets puts calls callv callx calli ret iret aret
newi newa len iload istor aload astor cast inst throw in out exit`

var names = strings.Fields(opNames)

func nameOf(op int) string { return names[op-1] }

// ins reads an instruction: "load 3", "getf Aa i", "ret". What is not known has no number, so that no class takes it.
func ins(s string) api.Ins {
	words := strings.Fields(s)
	x := api.Ins{Op: slices.Index(names, words[0]) + 1}
	for _, word := range words[1:] {
		switch n, err := strconv.Atoi(word); {
		case err == nil:
			x.A = n
		case x.C == "":
			x.C = word
		default:
			x.M = word
		}
	}
	return x
}

func code(s string) []api.Ins {
	var list []api.Ins
	for _, one := range strings.Split(s, ";") {
		list = append(list, ins(one))
	}
	return list
}

// body reads a method: its instructions, and what is other than usual:
// "static", "params I", "ret I", "locals 5", "stack 1", "map 4: Bb I Aa T / I", "trap 0 2 4 Err".
// As usual it is not static, takes an int and an Aa, gives nothing, and has one local more and a stack of four.
func body(text string, more ...string) api.Method {
	m := api.Method{Name: "m", Params: []string{"I", "Aa"}, Ret: "V", Locals: 4, Stack: 4, Code: code(text)}
	for _, s := range more {
		word, rest, _ := strings.Cut(s, " ")
		switch word {
		case "static":
			m.Static = true
		case "params":
			m.Params = strings.Fields(rest)
		case "ret":
			m.Ret = rest
		case "locals":
			m.Locals = number(rest)
		case "stack":
			m.Stack = number(rest)
		case "map":
			m.Maps = append(m.Maps, mapOf(rest))
		case "trap":
			m.Traps = append(m.Traps, trapOf(rest))
		default:
			panic("no such word: " + s)
		}
	}
	return m
}

func number(s string) int {
	n, err := strconv.Atoi(strings.TrimSpace(s))
	if err != nil {
		panic(err)
	}
	return n
}

func mapOf(s string) api.Map {
	at, rest, _ := strings.Cut(s, ":")
	locals, stack, _ := strings.Cut(rest, "/")
	return api.Map{At: number(at), Locals: strings.Fields(locals), Stack: strings.Fields(stack)}
}

func trapOf(s string) api.Trap {
	words := append(strings.Fields(s), "")
	return api.Trap{From: number(words[0]), To: number(words[1]), At: number(words[2]), C: words[3]}
}

// texts reads a method's texts, so that lists of them can be written as one text.
func texts(s string) []string {
	var list []string
	for _, one := range strings.Split(s, ",") {
		if one = strings.TrimSpace(one); one != "" {
			list = append(list, one)
		}
	}
	return list
}

func cl(name, super string, impl ...string) api.Class {
	return api.Class{Name: name, Super: super, Impl: impl}
}

func face(name string, impl ...string) api.Class {
	return api.Class{Name: name, Super: "Object", Interface: true, Impl: impl}
}

func field(name, typ string) api.Field { return api.Field{Name: name, Type: typ} }

func fixed(name, typ string) api.Field { return api.Field{Name: name, Type: typ, Static: true} }

// head gives a method of those types that does nothing: it never comes to an end of its own.
func head(name, ret, params string) api.Method {
	list := strings.Fields(params)
	return api.Method{Name: name, Ret: ret, Params: list, Locals: len(list) + 1, Stack: 1, Code: code("null; throw")}
}

func static(m api.Method) api.Method {
	m.Static, m.Locals = true, m.Locals-1
	return m
}

func abstract(name, ret, params string) api.Method {
	return api.Method{Name: name, Ret: ret, Params: strings.Fields(params), Abstract: true}
}

// world gives Cc of Bb of Aa, Ee alone, Err of MathErr, and the interfaces Hh alone and Gg of Ff; Ee is of Gg.
// The fields f and s and the methods f and s stand static in one class and not in another; Zz is no class.
func world() []api.Class {
	aa := cl("Aa", "Object")
	aa.Fields = []api.Field{field("i", "I"), field("a", "Aa"), field("arr", "[Aa"), fixed("n", "I"), fixed("o", "Bb"), field("f", "I"), fixed("s", "I"), fixed("z", "Zz")}
	aa.Methods = []api.Method{head("two", "I", "I Aa"), static(head("put", "V", "[I")), head("f", "V", ""), static(head("s", "V", "")), head("give", "Bb", ""), static(head("new", "[Aa", "I Ff")), head("z", "Zz", "")}
	bb := cl("Bb", "Aa")
	bb.Fields = []api.Field{fixed("f", "I"), field("s", "I"), field("b", "Ff")}
	bb.Methods = []api.Method{static(head("f", "V", "")), head("s", "V", ""), head("own", "I", "")}
	cc := cl("Cc", "Bb")
	cc.Fields = []api.Field{field("c", "I")}
	cc.Methods = []api.Method{head("c", "V", ""), head("two", "I", "I Aa")}
	ee := cl("Ee", "Object", "Gg")
	ee.Fields = []api.Field{field("i", "I"), fixed("n", "[I")}
	ee.Methods = []api.Method{head("e", "V", "Ee"), static(head("$init", "V", ""))}
	ff, gg, hh := face("Ff"), face("Gg", "Ff"), face("Hh")
	ff.Methods = []api.Method{abstract("k", "Aa", "I"), abstract("l", "V", "Aa Aa")}
	gg.Methods = []api.Method{abstract("j", "I", "")}
	return []api.Class{gg, cc, bb, hh, aa, cl("Err", "MathErr"), ee, ff}
}

// put gives world with the methods in that class, behind its own, and the place of the first of them.
func put(c string, list ...api.Method) ([]api.Class, int) {
	l := world()
	at := slices.IndexFunc(l, func(x api.Class) bool { return x.Name == c })
	first := len(l[at].Methods)
	for i, m := range list {
		m.Name = "m" + strconv.Itoa(i)
		l[at].Methods = append(l[at].Methods, m)
	}
	return l, first
}

func mustNew(t *testing.T, l []api.Class) *hier.Hier {
	t.Helper()
	h, err := hier.New(l)
	if err != api.OK {
		t.Fatalf("New = %v; want a Hier; of %v", err, l)
	}
	return h
}

// checkIn holds what Method says of m in the class c of world, and what the reckoning says of it.
func checkIn(t *testing.T, c string, m api.Method, want bool) {
	t.Helper()
	l, at := put(c, m)
	if got := verify.Method(mustNew(t, l), c, at); got != want {
		t.Errorf("in %s: Method = %v; want %v; of %s", c, got, want, told(m))
	}
	if got := bookOf(l).runs(c, m); got != want {
		t.Errorf("in %s: the reckoning says %v; want %v; of %s", c, got, want, told(m))
	}
}

// check is checkIn of a method of Bb.
func check(t *testing.T, want bool, text string, more ...string) {
	t.Helper()
	checkIn(t, "Bb", body(text, more...), want)
}

// told gives a method as body reads it.
func told(m api.Method) string {
	var list []string
	for at, x := range m.Code {
		list = append(list, strings.TrimSpace(fmt.Sprint(at, ": ", nameOf(x.Op), " ", x.A, " ", x.C, " ", x.M)))
	}
	return fmt.Sprintf("static %v, params %v, ret %s, locals %d, stack %d, maps %v, traps %v: %s", m.Static, m.Params, m.Ret, m.Locals, m.Stack, m.Maps, m.Traps, strings.Join(list, "; "))
}

func givenNames() []string {
	return []string{"Object", "Thrown", "NullErr", "RangeErr", "MathErr", "CastErr", "SizeErr", "StoreErr", "InitErr", "ClassErr"}
}

// dice gives numbers that are the same at each run.
type dice uint64

func (d *dice) below(n int) int {
	*d = *d*6364136223846793005 + 1442695040888963407
	return int(uint64(*d)>>33) % n
}

func (d *dice) of(list []string) string { return list[d.below(len(list))] }

func itoa(n int) string { return strconv.Itoa(n) }

func methodIn(t *testing.T, l []api.Class, c string, i int) bool {
	t.Helper()
	return verify.Method(mustNew(t, l), c, i)
}
