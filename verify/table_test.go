package verify_test

import (
	"slices"
	"strings"
	"testing"

	"daguerre/api"
	"daguerre/types"
)

// onStack are the types that are laid on the stack of the tests of the table.
const onStack = "I N Object Thrown MathErr Err Aa Bb Cc Ee Ff Gg Hh [I [Object [Aa [Bb [Ee [Ff [[I [[Aa [Thrown"

// standing gives, of each word by which the table asks, all of onStack that may stand there; the best known first.
func standing(word string) []string {
	all := strings.Fields(onStack)
	switch word {
	case "any":
		return all
	case "ref", "Ff", "Gg", "Hh", "Object":
		return all[1:]
	}
	return strings.Fields(map[string]string{
		"I":      "I",
		"Aa":     "Aa Bb Cc N",
		"Bb":     "Bb Cc N",
		"Cc":     "Cc N",
		"Ee":     "Ee N",
		"Thrown": "Thrown MathErr Err N",
		"[I":     "[I N",
		"[Aa":    "[Aa [Bb N",
		"array":  "[I N [Object [Aa [Bb [Ee [Ff [[I [[Aa [Thrown",
		"refs":   "[Object N [Aa [Bb [Ee [Ff [[I [[Aa [Thrown",
	}[word])
}

// A case of the table: an instruction, what it takes, and what it leaves, if that is always the same.
type instance struct{ x, takes, leaves string }

// plain are cases of each row, beside those of returns, in a method of Bb whose locals are Bb, I, Aa and T.
const plain = `
const 5 | | I
const 0 | | I
const -2147483648 | | I
null | | N
load 0 | | Bb
load 1 | | I
load 2 | | Aa
store 0 | any |
store 1 | any |
store 3 | any |
pop | any |
dup | any |
swap | any any |
add | I I | I
sub | I I | I
mul | I I | I
div | I I | I
rem | I I | I
neg | I | I
and | I I | I
or | I I | I
xor | I I | I
shl | I I | I
shr | I I | I
ushr | I I | I
goto 3 | |
ifeq 3 | I |
ifne 3 | I |
iflt 3 | I |
ifge 3 | I |
ifgt 3 | I |
ifle 3 | I |
cmpeq 3 | I I |
cmpne 3 | I I |
cmplt 3 | I I |
cmpge 3 | I I |
cmpgt 3 | I I |
cmple 3 | I I |
nil 3 | ref |
some 3 | ref |
same 3 | ref ref |
other 3 | ref ref |
new Aa | | Aa
new Bb | | Bb
new Object | | Object
new Thrown | | Thrown
new NullErr | | NullErr
new Err | | Err
getf Aa i | Aa | I
getf Bb i | Bb | I
getf Cc i | Cc | I
getf Aa a | Aa | Aa
getf Cc arr | Cc | [Aa
getf Aa f | Aa | I
getf Bb s | Bb | I
getf Cc s | Cc | I
getf Bb b | Bb | Ff
getf Ee i | Ee | I
putf Aa i | Aa I |
putf Cc i | Cc I |
putf Aa a | Aa Aa |
putf Bb arr | Bb [Aa |
putf Bb b | Bb Ff |
putf Bb s | Bb I |
gets Aa n | | I
gets Cc n | | I
gets Aa o | | Bb
gets Bb f | | I
gets Cc f | | I
gets Aa s | | I
gets Ee n | | [I
puts Aa n | I |
puts Cc n | I |
puts Bb o | Bb |
puts Bb f | I |
puts Aa s | I |
puts Ee n | [I |
calls Aa put | [I |
calls Cc put | [I |
calls Aa s | |
calls Bb f | |
calls Cc f | |
calls Aa new | I Ff | [Aa
calls Bb new | I Ff | [Aa
callv Aa two | Aa I Aa | I
callv Bb two | Bb I Aa | I
callv Cc two | Cc I Aa | I
callv Aa f | Aa |
callv Aa give | Aa | Bb
callv Cc give | Cc | Bb
callv Bb s | Bb |
callv Cc s | Cc |
callv Bb own | Bb | I
callv Cc c | Cc |
callv Ee e | Ee Ee |
callx Aa two | Bb I Aa | I
callx Bb two | Bb I Aa | I
callx Aa f | Bb |
callx Aa give | Bb | Bb
callx Bb give | Bb | Bb
callx Cc give | Cc | Bb
callx Bb s | Bb |
callx Cc s | Cc |
callx Bb own | Bb | I
callx Cc own | Cc | I
calli Ff k | Ff I | Aa
calli Gg k | Gg I | Aa
calli Gg j | Gg | I
calli Ff l | Ff Aa Aa |
calli Gg l | Gg Aa Aa |
newi | I | [I
newa Aa | I | [Aa
newa Ff | I | [Ff
newa Object | I | [Object
newa [I | I | [[I
newa [Aa | I | [[Aa
len | array | I
iload | [I I | I
istor | [I I I |
aload | refs I |
astor | refs I ref |
cast Aa | ref | Aa
cast Cc | ref | Cc
cast Ff | ref | Ff
cast Object | ref | Object
cast Thrown | ref | Thrown
cast [I | ref | [I
cast [[Aa | ref | [[Aa
inst Aa | ref | I
inst Hh | ref | I
inst Object | ref | I
inst [I | ref | I
inst [[I | ref | I
throw | Thrown |
in | | I
out | I |
exit | I |
ret | |
`

func instances() []instance {
	var list []instance
	for _, text := range strings.Split(strings.TrimSpace(plain), "\n") {
		cells := strings.Split(text, "|")
		list = append(list, instance{strings.TrimSpace(cells[0]), strings.TrimSpace(cells[1]), strings.TrimSpace(cells[2])})
	}
	return list
}

// Each of api's instructions stands in the table, but the two of returns that have a test of their own.
func TestInstancesAreOfEachRow(t *testing.T) {
	var missing []string
	for _, name := range names {
		if !slices.ContainsFunc(instances(), func(i instance) bool { return strings.Fields(i.x)[0] == name }) {
			missing = append(missing, name)
		}
	}
	if strings.Join(missing, " ") != "iret aret" || len(names) != api.OExit {
		t.Errorf("no case of %v", missing)
	}
}

// probe gives a method of Bb in which x finds just these on the stack: it stands at a Map that nothing comes to.
// Where x jumps, or ends, there is a Map behind it, of the stack that is to be left.
func probe(x, stack, left string, more ...string) api.Method {
	more = append([]string{"stack 8", "map 2: Bb I Aa T / " + stack}, more...)
	if jumps(ins(x)) || ends(ins(x)) {
		more = append(more, "map 3: T T T T / "+left)
	}
	return body("null; throw; "+x+"; null; throw", more...)
}

// best gives what is asked, by one type of each.
func best(takes string) []string {
	var list []string
	for _, word := range strings.Fields(takes) {
		list = append(list, standing(word)[0])
	}
	return list
}

func TestEachTakes(t *testing.T) {
	for _, i := range instances() {
		words := strings.Fields(i.takes)
		for at, word := range words {
			for _, typ := range strings.Fields(onStack) {
				stack := best(i.takes)
				stack[at] = typ
				checkIn(t, "Bb", probe(i.x, strings.Join(stack, " "), ""), slices.Contains(standing(word), typ))
			}
		}
	}
}

// Fewer are too few; what stands below stays there, and what stands above is not passed over.
func TestEachTakesJustThese(t *testing.T) {
	for _, i := range instances() {
		stack := best(i.takes)
		for n := range stack {
			checkIn(t, "Bb", probe(i.x, strings.Join(stack[:n], " "), ""), false)
			checkIn(t, "Bb", probe(i.x, strings.Join(stack[n+1:], " "), ""), false)
		}
		for _, below := range []string{"I", "N", "[Ee Aa"} {
			checkIn(t, "Bb", probe(i.x, below+" "+strings.Join(stack, " "), below), true)
		}
	}
	for _, x := range []string{"add", "sub", "cmpeq 3", "cmple 3", "istor", "iload", "aload", "astor", "callv Aa two", "putf Aa i", "puts Aa n", "throw", "out", "exit", "len", "neg", "nil 3", "cast Aa"} {
		for _, i := range instances() {
			if i.x == x {
				above := "N"
				if standing(strings.Fields(i.takes)[len(strings.Fields(i.takes))-1])[0] != "I" {
					above = "I"
				}
				checkIn(t, "Bb", probe(x, strings.Join(best(i.takes), " ")+" "+above, ""), false)
			}
		}
	}
}

// checkLeaves holds what x leaves of that stack against a Map of each type behind it.
func checkLeaves(t *testing.T, x, stack, left string) {
	t.Helper()
	l := world()
	h := mustNew(t, l)
	leaves := strings.Fields(left)
	behind := func(stack []string) string { return "map 3: T T T T / " + strings.Join(stack, " ") }
	checkIn(t, "Bb", probe(x, stack, "", behind(leaves)), true)
	checkIn(t, "Bb", probe(x, stack, "", behind(append(leaves, "I"))), false)
	checkIn(t, "Bb", probe(x, "I "+stack, "", behind(leaves)), false)
	checkIn(t, "Bb", probe(x, "I "+stack, "", behind(append([]string{"I"}, leaves...))), true)
	for n := range leaves {
		checkIn(t, "Bb", probe(x, stack, "", behind(leaves[:n])), false)
		for _, typ := range strings.Fields(onStack) {
			other := slices.Clone(leaves)
			other[n] = typ
			checkIn(t, "Bb", probe(x, stack, "", behind(other)), types.Fits(h, leaves[n], typ))
		}
	}
}

func TestEachLeaves(t *testing.T) {
	for _, i := range instances() {
		name := strings.Fields(i.x)[0]
		if !jumps(ins(i.x)) && !ends(ins(i.x)) && !slices.Contains([]string{"dup", "swap", "aload"}, name) {
			checkLeaves(t, i.x, strings.Join(best(i.takes), " "), i.leaves)
		}
	}
	for _, typ := range strings.Fields(onStack) {
		checkLeaves(t, "dup", typ, typ+" "+typ)
		checkLeaves(t, "swap", typ+" I", "I "+typ)
		checkLeaves(t, "swap", "[I "+typ, typ+" [I")
	}
	for _, typ := range strings.Fields("[Object [Aa [Bb [Ee [Ff [[I [[Aa [Thrown") {
		checkLeaves(t, "aload", typ+" I", typ[1:])
	}
	checkLeaves(t, "aload", "N I", "N")
}

// What an instruction takes may be null; then it leaves the same but of OAload, which knows no more than that.
func TestNullStandsForEach(t *testing.T) {
	for _, i := range instances() {
		var stack []string
		for _, word := range strings.Fields(i.takes) {
			if word == "I" {
				stack = append(stack, "I")
			} else {
				stack = append(stack, "N")
			}
		}
		checkIn(t, "Bb", probe(i.x, strings.Join(stack, " "), ""), true)
	}
	for _, text := range []string{
		"null; const 1; aload; getf Cc c; pop; ret", "null; const 1; aload; const 1; aload; len; pop; ret",
		"null; const 1; aload; const 1; iload; neg; pop; ret", "null; const 1; aload; throw", "null; const 1; iload; neg; pop; ret",
	} {
		check(t, true, text)
	}
	check(t, false, "null; const 1; aload; neg; pop; ret")
	check(t, false, "null; const 1; iload; len; pop; ret")
	check(t, false, "null; neg; pop; ret")
	check(t, false, "null; null; aload; pop; ret")
}

// never are instructions that may not stand in a method of Bb, whatever is on the stack.
const never = `new Ff, new Hh, new Zz, new Run
getf Aa n, getf Aa s, getf Aa o, getf Bb f, getf Cc f, getf Bb n, getf Aa zz, getf Zz i, getf Ff i, getf Object i, getf Thrown i, getf Aa c, getf Bb c, getf Aa b, getf Ee a, getf Ee n, getf Aa two, getf Aa m0
putf Aa n, putf Aa s, putf Aa o, putf Bb f, putf Cc f, putf Bb n, putf Aa zz, putf Zz i, putf Ff i, putf Object i, putf Aa c, putf Bb c, putf Aa b, putf Ee a, putf Ee n
gets Aa i, gets Aa f, gets Aa a, gets Bb s, gets Cc s, gets Bb i, gets Aa zz, gets Zz n, gets Ff n, gets Object n, gets Ee o, gets Ee i, gets Bb b, gets Aa put
puts Aa i, puts Aa f, puts Aa a, puts Bb s, puts Cc s, puts Bb i, puts Aa zz, puts Zz n, puts Ff n, puts Object n, puts Ee o, puts Ee i, puts Bb b
calls Aa two, calls Aa f, calls Aa give, calls Bb s, calls Cc s, calls Bb own, calls Ff k, calls Gg j, calls Gg k, calls Zz put, calls Aa zz, calls Object put, calls Ee put, calls Aa n, calls Ee e, calls Bb m0
callv Aa put, callv Aa s, callv Bb f, callv Cc f, callv Bb put, callv Ff k, callv Ff l, callv Gg j, callv Gg k, callv Hh k, callv Zz f, callv Aa zz, callv Aa own, callv Aa c, callv Bb c, callv Ee k, callv Ee j, callv Object f, callv Aa i
callx Aa put, callx Aa s, callx Bb f, callx Cc f, callx Bb put, callx Ff k, callx Ff l, callx Gg j, callx Gg k, callx Zz f, callx Aa zz, callx Aa own, callx Aa c, callx Bb c, callx Object f, callx Ee k
callx Cc c, callx Cc two, callx Ee e
calli Aa f, calli Aa two, calli Bb own, calli Ee k, calli Ee e, calli Ff j, calli Ff zz, calli Hh k, calli Hh j, calli Zz k, calli Object k, calli Aa put
newa Zz, newa [Zz, newa [[Zz, newa [[I, newa [[Aa, newa [[Object, newa Run
cast Zz, cast [Zz, cast [[Zz, inst Zz, inst [Zz, inst [[Zz
load 3, load 4, load 5, load 15, store 4, store 5, store 15`

func TestNever(t *testing.T) {
	stacks := []string{""}
	for from := 0; len(stacks) < 40; {
		to := len(stacks)
		for _, s := range stacks[from:to] {
			stacks = append(stacks, s+" I", s+" N", s+" Cc")
		}
		from = to
	}
	for _, x := range texts(strings.ReplaceAll(never, "\n", ",")) {
		for _, stack := range stacks {
			checkIn(t, "Bb", probe(x, stack, ""), false)
		}
	}
}

func TestLocals(t *testing.T) {
	for n := range api.MaxLocals + 1 {
		for a := range api.MaxLocals {
			within := a < n
			locals := "locals " + itoa(n)
			check(t, within, "const 1; store "+itoa(a)+"; ret", "static", "params", locals)
			check(t, within, "const 1; store "+itoa(a)+"; load "+itoa(a)+"; neg; pop; ret", "static", "params", locals)
			check(t, false, "load "+itoa(a)+"; pop; ret", "static", "params", locals)
		}
	}
	check(t, false, "load 3; pop; ret")
	check(t, true, "const 1; store 3; load 3; neg; pop; ret")
	check(t, false, "const 1; store 3; load 3; len; pop; ret")
	check(t, true, "null; store 3; load 3; len; pop; ret")
	check(t, true, "null; store 1; load 1; len; pop; load 1; getf Cc c; pop; ret")
	check(t, false, "null; store 1; load 1; neg; pop; ret")
	check(t, true, "load 1; store 0; load 0; neg; pop; ret")
	check(t, false, "load 1; store 0; load 0; getf Bb b; pop; ret")
	check(t, true, "load 0; store 2; load 2; getf Bb b; pop; ret")
	check(t, false, "load 2; store 0; load 0; getf Bb b; pop; ret")
	check(t, true, "load 0; store 3; load 0; getf Bb b; load 3; getf Bb b; pop; pop; ret")
	check(t, true, "const 1; store 3; null; store 3; load 3; throw")
	check(t, false, "null; store 3; const 1; store 3; load 3; throw")
	check(t, false, "load 1; pop; load 3; pop; ret", "map 1: Bb I Aa T / I")
	check(t, false, "const 1; store 3; load 3; pop; ret", "map 2: Bb I Aa T /")
	check(t, true, "const 1; store 3; load 3; pop; ret", "map 2: T T T I /")
}

// A store changes that local alone, to just what was taken.
func TestEachStores(t *testing.T) {
	h := mustNew(t, world())
	for a := range 4 {
		for _, typ := range strings.Fields(onStack) {
			x := "store " + itoa(a)
			checkIn(t, "Bb", probe(x, typ, "", "map 3: T T T T /"), true)
			for _, other := range strings.Fields(onStack) {
				locals := strings.Fields("Bb I Aa T")
				locals[a] = other
				checkIn(t, "Bb", probe(x, typ, "", "map 3: "+strings.Join(locals, " ")+" /"), types.Fits(h, typ, other))
			}
		}
	}
}

// What may be called of an object of another class, passing its own method by, hangs on the class that asks.
func TestCallxOfEachClass(t *testing.T) {
	for _, x := range []struct {
		c, x, stack string
		want        bool
	}{
		{"Aa", "callx Aa two", "Aa I N", true}, {"Aa", "callx Aa two", "Cc I N", true}, {"Aa", "callx Aa two", "Ee I N", false}, {"Aa", "callx Bb two", "Bb I N", true}, {"Aa", "callx Bb two", "Aa I N", false},
		{"Aa", "callx Bb own", "Cc", false}, {"Aa", "callx Cc two", "Cc I N", false}, {"Aa", "callx Cc own", "Cc", false}, {"Aa", "callx Cc give", "Cc", true}, {"Aa", "callx Ee e", "Ee Ee", false},
		{"Bb", "callx Aa two", "Aa I N", false}, {"Bb", "callx Aa two", "Bb I N", true}, {"Bb", "callx Aa two", "N I N", true}, {"Bb", "callx Bb own", "Aa", false}, {"Bb", "callx Bb own", "Bb", true}, {"Bb", "callx Cc own", "Bb", false}, {"Bb", "callx Cc own", "Cc", true},
		{"Cc", "callx Aa two", "Bb I N", false}, {"Cc", "callx Aa two", "Cc I N", true}, {"Cc", "callx Aa give", "Aa", false}, {"Cc", "callx Bb own", "Bb", false}, {"Cc", "callx Bb own", "Cc", true}, {"Cc", "callx Cc c", "Cc", true}, {"Cc", "callx Cc two", "Cc I N", true}, {"Cc", "callx Cc two", "Bb I N", false}, {"Cc", "callx Bb s", "N", true},
		{"Ee", "callx Aa two", "Aa I N", false}, {"Ee", "callx Aa two", "N I N", false}, {"Ee", "callx Ee e", "Ee N", true}, {"Ee", "callx Ee e", "Ff N", false}, {"Ee", "callx Ee e", "N N", true}, {"Ee", "callx Ff k", "Ee I", false},
		{"Err", "callx Aa f", "N", false}, {"Err", "callx Err f", "N", false}, {"Err", "callx Object f", "N", false},
	} {
		for _, more := range []string{"params I Aa", "static"} {
			m := probe(x.x, x.stack, "", more)
			m.Maps[0].Locals = strings.Fields("T T T T")
			checkIn(t, x.c, m, x.want)
		}
	}
}

func TestReturns(t *testing.T) {
	h := mustNew(t, world())
	for _, ret := range append(strings.Fields(onStack), "V") {
		if ret == "N" {
			continue // it is nothing that a method may give
		}
		checkIn(t, "Bb", probe("ret", "", "", "ret "+ret), ret == "V")
		checkIn(t, "Bb", probe("iret", "", "", "ret "+ret), false)
		checkIn(t, "Bb", probe("aret", "", "", "ret "+ret), false)
		for _, typ := range strings.Fields(onStack) {
			checkIn(t, "Bb", probe("ret", typ, "", "ret "+ret), ret == "V")
			checkIn(t, "Bb", probe("iret", typ, "", "ret "+ret), ret == "I" && typ == "I")
			checkIn(t, "Bb", probe("aret", typ, "", "ret "+ret), ret != "I" && types.Fits(h, typ, ret))
			checkIn(t, "Bb", probe("iret", "N I", "", "ret "+ret), ret == "I")
			checkIn(t, "Bb", probe("iret", "I "+typ, "", "ret "+ret), ret == "I" && typ == "I")
			checkIn(t, "Bb", probe("aret", "I "+typ, "", "ret "+ret), ret != "I" && types.Fits(h, typ, ret))
		}
	}
	for _, x := range []struct {
		ret, text string
		want      bool
	}{
		{"V", "ret", true}, {"V", "const 1; ret", true}, {"V", "const 1; iret", false}, {"V", "null; aret", false}, {"V", "null; throw", true}, {"V", "const 1; exit", true},
		{"I", "ret", false}, {"I", "const 1; iret", true}, {"I", "load 1; iret", true}, {"I", "null; iret", false}, {"I", "load 0; iret", false}, {"I", "const 1; aret", false}, {"I", "null; aret", false}, {"I", "null; throw", true}, {"I", "iret", false},
		{"Aa", "load 0; aret", true}, {"Aa", "load 2; aret", true}, {"Aa", "null; aret", true}, {"Aa", "load 1; aret", false}, {"Aa", "load 1; iret", false}, {"Aa", "ret", false}, {"Aa", "new Ee; aret", false}, {"Aa", "aret", false},
		{"Bb", "load 0; aret", true}, {"Bb", "load 2; aret", false}, {"Cc", "load 0; aret", false}, {"Object", "load 2; aret", true}, {"Ff", "load 2; aret", true}, {"Ff", "load 1; aret", false},
		{"[I", "const 1; newi; aret", true}, {"[I", "null; aret", true}, {"[I", "const 1; newa Aa; aret", false}, {"[Aa", "const 1; newa Bb; aret", true}, {"[Bb", "const 1; newa Aa; aret", false}, {"Object", "const 1; newi; aret", true}, {"[[I", "const 1; newa [I; aret", true}, {"[Object", "const 1; newa [I; aret", true},
	} {
		check(t, x.want, x.text, "ret "+x.ret)
	}
}

// What a field's, or another method's, type is is asked by what takes it: it fits nothing where it is not there.
func TestTypesOfOthersThatAreNotThere(t *testing.T) {
	check(t, true, "gets Aa z; ret")
	check(t, true, "gets Aa z; pop; ret")
	check(t, true, "load 2; callv Aa z; pop; ret")
	check(t, false, "null; puts Aa z; ret")
	check(t, false, "gets Aa z; puts Aa z; ret")
	check(t, false, "gets Aa z; puts Ee n; ret")
	check(t, false, "gets Aa z; throw")
	check(t, false, "gets Aa z; aret", "ret Object")
	check(t, false, "gets Aa z; pop; ret", "map 1: T T T T / Object")
	check(t, false, "gets Aa z; store 3; ret", "map 2: T T T T /")
}
