package verify_test

import (
	"slices"
	"strings"
	"testing"

	"daguerre/api"
	"daguerre/types"
)

func TestTypesThatAreNotThere(t *testing.T) {
	for _, typ := range strings.Fields("Zz [Zz [[Zz Run [Run") {
		for at := range 4 {
			locals := strings.Fields("T T T T")
			locals[at] = typ
			check(t, false, "null; throw; null; throw", "map 2: "+strings.Join(locals, " ")+" /")
			check(t, false, "null; throw; null; throw", "map 0: "+strings.Join(locals, " ")+" /", "map 2: T T T T /")
		}
		check(t, false, "null; throw; null; throw", "map 2: T T T T / "+typ)
		check(t, false, "null; throw; null; throw", "map 2: T T T T / I "+typ)
		check(t, false, "null; throw; null; throw", "map 2: T T T T / "+typ+" I")
		check(t, false, "null; throw; ret; ret; ret", "map 2: T T T T / I", "map 3: T T T "+typ+" /", "map 4: T T T T /")
		check(t, false, "null; throw; ret; ret; ret", "map 2: T T T T / I", "map 3: T T T T /", "map 4: T T T T / "+typ)
		check(t, false, "null; throw", "params I "+typ)
		check(t, false, "null; throw", "params "+typ)
		check(t, false, "null; throw", "params I I "+typ, "static")
		check(t, false, "null; throw", "params I I I I I "+typ, "locals 7")
		check(t, false, "null; throw", "ret "+typ)
		check(t, false, "null; aret", "ret "+typ)
	}
	for _, typ := range strings.Fields("Object Thrown Aa Cc Ff Err [I [[I [Aa [[Ff [[Thrown") {
		check(t, true, "null; throw; null; throw", "map 2: "+typ+" T I "+typ+" / I "+typ)
		check(t, true, "null; throw", "params I "+typ)
		check(t, true, "null; throw", "ret "+typ)
		check(t, true, "null; aret", "ret "+typ)
	}
	check(t, true, "null; throw; null; throw", "map 2: N T I N / N")
	check(t, true, "null; throw", "ret V")
	check(t, true, "null; throw", "ret I")
}

// begins tells what stands in the locals ahead of the first instruction of a method of c: each is held against every type.
func begins(t *testing.T, c, want string, more ...string) {
	t.Helper()
	h := mustNew(t, world())
	locals := strings.Fields(want)
	more = append(more, "locals "+itoa(len(locals)))
	all := func(list []string, stack string) string { return "map 0: " + strings.Join(list, " ") + " / " + stack }
	checkIn(t, c, body("null; throw", append(more, all(locals, ""))...), true)
	checkIn(t, c, body("null; throw", append(more, all(locals, "I"))...), false)
	checkIn(t, c, body("null; throw", append(more, all(locals, "N"))...), false)
	for at, typ := range locals {
		for _, other := range append(strings.Fields(onStack), "T", "Zz") {
			list := slices.Clone(locals)
			list[at] = other
			checkIn(t, c, body("null; throw", append(more, all(list, ""))...), types.Fits(h, typ, other))
		}
		checkIn(t, c, body("load "+itoa(at)+"; null; throw", more...), typ != "T")
		checkIn(t, c, body("load "+itoa(at)+"; neg; null; throw", more...), typ == "I")
		checkIn(t, c, body("load "+itoa(at)+"; getf Bb b; null; throw", more...), typ == "Bb" || typ == "Cc")
		checkIn(t, c, body("load "+itoa(at)+"; getf Aa a; null; throw", more...), typ == "Aa" || typ == "Bb" || typ == "Cc")
	}
}

func TestBeginning(t *testing.T) {
	begins(t, "Bb", "Bb I Aa T")
	begins(t, "Bb", "Bb I Aa")
	begins(t, "Bb", "Bb I Aa T T T")
	begins(t, "Bb", "I Aa T T", "static")
	begins(t, "Bb", "I Aa", "static")
	begins(t, "Bb", "Bb T", "params")
	begins(t, "Bb", "Bb", "params")
	begins(t, "Bb", "", "params", "static")
	begins(t, "Bb", "T T", "params", "static")
	begins(t, "Aa", "Aa I Aa T")
	begins(t, "Cc", "Cc I Aa T")
	begins(t, "Ee", "Ee [I Object T", "params [I Object")
	begins(t, "Err", "Err Ff", "params Ff")
	begins(t, "Bb", "Bb I Aa [I [[Aa Ff Cc T T T T T T T T T", "params I Aa [I [[Aa Ff Cc")
	begins(t, "Bb", "Bb I I I I I I", "params I I I I I I")
	begins(t, "Bb", "Cc [[I I Object Err Aa", "static", "params Cc [[I I Object Err Aa")
	begins(t, "Bb", "T T T T T T T T T T T T T T T T", "static", "params")
	check(t, true, "ret", "static", "params", "locals 0", "stack 0")
}

// An initialiser is a method like others.
func TestInitialiser(t *testing.T) {
	for _, x := range []struct {
		text string
		want bool
	}{{"const 3; puts Aa n; ret", true}, {"null; puts Aa n; ret", false}, {"load 0; pop; ret", false}, {"const 1; iret", false}} {
		m := body(x.text, "static", "params", "locals 1")
		l, at := put("Cc", m)
		l[1].Methods[at].Name = "$init"
		if got := methodIn(t, l, "Cc", at); got != x.want {
			t.Errorf("$init: Method = %v; want %v; of %s", got, x.want, x.text)
		}
	}
}

// A Map holds from its instruction on, whatever was known ahead.
func TestMapForgets(t *testing.T) {
	check(t, true, "load 0; getf Bb b; ret", "map 0: Bb I Aa T /")
	check(t, false, "load 0; getf Bb b; ret", "map 0: Aa I Aa T /")
	check(t, true, "load 0; getf Aa i; ret", "map 0: Aa I Aa T /")
	check(t, false, "load 1; ret", "map 0: Bb T Aa T /")
	check(t, false, "load 0; load 1; ret", "map 1: Bb T Aa T / Bb")
	check(t, true, "load 0; getf Bb b; ret", "map 1: T T T T / Bb")
	check(t, false, "load 0; getf Bb b; ret", "map 1: T T T T / Aa")
	check(t, false, "load 0; getf Bb b; ret", "map 1: T T T T / Object")
	check(t, true, "null; store 1; load 1; len; ret", "map 1: T T T T / N")
	check(t, false, "null; store 1; load 1; len; ret", "map 1: T T T T / Aa")
}

// enders are the instructions behind which nothing goes on, with what they take, and the Ret that they ask.
func enders() [][3]string {
	return [][3]string{{"goto 0", "", "V"}, {"ret", "", "V"}, {"iret", "I", "I"}, {"aret", "Aa", "Aa"}, {"throw", "Err", "V"}, {"exit", "I", "V"}}
}

func TestBehindOneThatEnds(t *testing.T) {
	for _, x := range enders() {
		text := "null; throw; " + x[0] + "; null; throw"
		ret, first, at := "ret "+x[2], "map 0: T T T T /", "map 2: T T T T / "+x[1]
		check(t, false, text, ret, first, at)
		for _, behind := range []string{"T T T T /", "T T T T / I", "Cc N [I [[Aa / Ff Ff", "Bb I Aa T /", "I I I I / I I I"} {
			check(t, true, text, ret, first, at, "map 3: "+behind)
		}
		check(t, false, text, ret, first, at, "map 4: T T T T / N")
		check(t, false, text, ret, first, at, "map 3: T T T T /", "map 4: T T T T / I")
		check(t, true, text, ret, first, at, "map 3: T T T T /", "map 4: T T T T / N")
		check(t, false, text, ret, first, at, "map 3: Zz T T T /")
		check(t, false, "null; throw; "+x[0]+"; const 1; throw", ret, first, at, "map 3: T T T T /")
	}
}

// Behind each other instruction a Map is held against what comes; without a Map what comes is what stands there.
// (A store is not among them: TestEachStores has it.)
func TestBehindOneThatGoesOn(t *testing.T) {
	for _, i := range instances() {
		x := i.x
		if jumps(ins(x)) {
			x = strings.Replace(x, " 3", " 0", 1)
		}
		if ends(ins(x)) || strings.HasPrefix(x, "store") {
			continue
		}
		with := func(want bool, text string, more ...string) {
			t.Helper()
			maps := []string{"stack 8", "map 0: T T T T /", "map 2: Bb I Aa T / " + strings.Join(best(i.takes), " ")}
			m := body("null; throw; "+x+"; "+text+"; null; throw", append(maps, more...)...)
			checkIn(t, "Bb", m, want)
		}
		with(true, "load 0; getf Bb b")
		with(true, "load 1")
		with(false, "load 3")
		with(false, "throw", "map 3: Bb I Aa T / I I I")
		with(false, "load 1", "map 3: Bb I Aa I / "+i.leaves)
		with(false, "load 1", "map 3: Bb I Bb T / "+i.leaves)
		with(false, "load 1", "map 3: Cc I Aa T / "+i.leaves)
		with(false, "load 1", "map 3: Bb N Aa T / "+i.leaves)
	}
}

// jumpers are all instructions that jump, without the place, with what they take.
func jumpers() [][2]string {
	var list [][2]string
	for _, i := range instances() {
		if jumps(ins(i.x)) {
			list = append(list, [2]string{strings.Fields(i.x)[0], strings.Join(best(i.takes), " ")})
		}
	}
	return list
}

func TestJumps(t *testing.T) {
	if len(jumpers()) != api.OOther-api.OGoto+1 {
		t.Fatalf("%d jump", len(jumpers()))
	}
	for _, x := range jumpers() {
		op, takes := x[0]+" ", x[1]
		at := "map 2: Bb I Aa T / Cc " + takes
		next := "map 3: T T T T /"
		if op != "goto " {
			next += " Object"
		}
		with := func(want bool, to string, more ...string) {
			t.Helper()
			list := append([]string{"stack 5", at, next}, more...)
			m := body("null; throw; "+op+to+"; ret; null; throw", list...)
			checkIn(t, "Bb", m, want)
		}
		for _, to := range []string{"0", "1", "4", "5"} {
			with(false, to)
		}
		with(false, "5", "map 4: Bb I Aa T / Cc")
		with(false, "1", "map 4: Bb I Aa T / Cc")
		for _, there := range []string{"Bb I Aa T / Cc", "T T T T / Object", "Object T Aa T / Ff", "Bb T Object T / Aa"} {
			with(true, "4", "map 4: "+there)
		}
		for _, there := range []string{
			"Cc I Aa T / Cc", "Bb N Aa T / Cc", "Bb I Bb T / Cc", "Bb I Aa I / Cc", "Bb I Aa N / Cc",
			"Bb I Aa T / Ee", "Bb I Aa T / I", "Bb I Aa T / N", "Bb I Aa T /", "Bb I Aa T / Cc Cc", "Bb I Aa T / Cc I", "Bb I Aa T / Cc " + takes + " I",
		} {
			with(false, "4", "map 4: "+there)
		}
	}
}

// A jump to itself takes something each time, but OGoto; what it takes must stand there again.
func TestJumpsToItself(t *testing.T) {
	check(t, true, "goto 0", "map 0: Bb I Aa T /")
	check(t, true, "goto 0", "map 0: T T T T /")
	check(t, false, "goto 0")
	check(t, true, "null; throw; goto 2", "map 2: T T T T / I I")
	check(t, true, "null; throw; goto 2", "map 2: [I T N T / Ff Cc")
	check(t, false, "null; throw; goto 2")
	for _, x := range jumpers()[1:] {
		check(t, false, "null; throw; "+x[0]+" 2; ret", "map 2: T T T T / "+x[1])
		check(t, false, "null; throw; "+x[0]+" 2; ret", "map 2: T T T T / "+x[1]+" "+x[1])
	}
}

func TestJumpsOnAndBack(t *testing.T) {
	for _, x := range []struct {
		want       bool
		text, maps string
	}{
		{true, "load 1; ifeq 3; ret; ret", "3: Bb I Aa T /"},
		{true, "load 1; ifeq 3; ret; ret", "3: T T T T /"},
		{false, "load 1; ifeq 3; ret; ret", ""},
		{false, "load 1; ifeq 3; ret; ret", "3: T T T T / I"},
		{false, "load 1; ifeq 3; ret; ret", "2: T T T T /"},
		{true, "load 1; ifeq 2; ret", "2: Bb I Aa T /"},
		{false, "load 1; ifeq 2; ret", ""},
		{true, "load 1; ifeq 0; ret", "0: Bb I Aa T /"},
		{true, "load 1; ifeq 0; ret", "0: T I T T /"},
		{false, "load 1; ifeq 0; ret", "0: T T T T /"},
		{false, "load 1; ifeq 0; ret", ""},
		{false, "load 1; ifeq 1; ret", "1: T T T T / I"},
		{true, "goto 1; ret", "1: Bb I Aa T /"},
		{false, "goto 1; ret", ""},
		{true, "goto 2; ret; ret", "1: T T T T /, 2: T T T T /"},
		{false, "goto 2; ret; ret", "2: T T T T /"},
		{false, "goto 2; ret; ret", "1: T T T T /"},
		{true, "goto 2; goto 1; goto 1", "1: Bb I Aa T /, 2: Bb I Aa T /"},
		{true, "goto 2; goto 1; goto 1", "1: Bb T Aa T /, 2: Bb I Aa T /"},
		{false, "goto 2; goto 1; goto 1", "1: Bb I Aa T /, 2: Bb T Aa T /"},
		// A loop that counts in the last local; it is an int at the loop's head.
		{true, "const 9; store 3; load 3; ifle 9; load 3; neg; store 3; goto 2; ret; ret", "2: Bb I Aa I /, 8: T T T T /, 9: T T T T /"},
		{false, "const 9; store 3; load 3; ifle 9; load 3; neg; store 3; goto 2; ret; ret", "2: Bb I Aa T /, 8: T T T T /, 9: T T T T /"},
		{false, "const 9; store 3; load 3; ifle 9; load 3; neg; store 3; goto 1; ret; ret", "1: Bb I Aa T / I, 8: T T T T /, 9: T T T T /"},
		{false, "const 9; store 3; load 3; ifle 9; load 3; neg; store 3; null; store 3; goto 2; ret", "2: Bb I Aa I /, 9: T T T T /"},
		{false, "const 9; store 3; load 3; ifle 9; null; store 3; goto 2; ret; ret; ret", "2: Bb I Aa I /, 7: T T T T /, 8: T T T T /, 9: T T T T /"},
		// Two ways meet: what stands there is what both of them are.
		{true, "load 1; ifeq 4; new Cc; goto 5; new Ee; pop; ret", "4: T T T T /, 5: T T T T / Object"},
		{true, "load 1; ifeq 4; new Cc; goto 5; new Ee; pop; ret", "4: T T T T /, 5: T T T T / Hh"},
		{false, "load 1; ifeq 4; new Cc; goto 5; new Ee; pop; ret", "4: T T T T /, 5: T T T T / Cc"},
		{false, "load 1; ifeq 4; new Cc; goto 5; new Ee; pop; ret", "4: T T T T /, 5: T T T T / Ee"},
		{true, "load 1; ifeq 4; null; goto 5; new Ee; pop; ret", "4: T T T T /, 5: T T T T / Ee"},
		{true, "load 1; ifeq 4; new Cc; goto 5; new Bb; getf Aa i; ret", "4: T T T T /, 5: T T T T / Bb"},
		{true, "load 1; ifeq 4; new Cc; goto 5; new Bb; getf Aa i; ret", "4: T T T T /, 5: T T T T / Aa"},
		{false, "load 1; ifeq 4; new Cc; goto 5; new Bb; getf Aa i; ret", "4: T T T T /, 5: T T T T / Object"},
	} {
		var more []string
		for _, s := range texts(x.maps) {
			more = append(more, "map "+s)
		}
		check(t, x.want, x.text, more...)
	}
}

// goesTo tells whether what is of those locals and that stack goes to a Map: from the instruction ahead, by a jump, and by a Trap.
func goesTo(t *testing.T, want bool, locals, stack, to string) {
	t.Helper()
	from := "map 2: " + locals + " / " + stack
	check(t, want, "null; throw; const 1; pop; null; throw", "stack 6", from, "map 4: "+to)
	check(t, want, "null; throw; goto 4; ret; null; throw", "stack 6", from, "map 3: T T T T /", "map 4: "+to)
	if stack == "Thrown" {
		check(t, want, "null; throw; ret; ret; null; throw", "stack 6", from, "map 3: T T T T /", "map 4: "+to, "trap 2 3 4")
	}
}

func TestGoes(t *testing.T) {
	h := mustNew(t, world())
	for _, a := range append(strings.Fields(onStack), "T") {
		for _, b := range append(strings.Fields(onStack), "T") {
			want := types.Fits(h, a, b)
			goesTo(t, want, a+" T T T", "Thrown", b+" T T T / Object")
			goesTo(t, want, "Aa I T "+a, "Thrown", "T I T "+b+" / Thrown")
			if a != "T" && b != "T" {
				goesTo(t, want, "T T T T", a, "T T T T / "+b)
				goesTo(t, want, "T T T T", "I Aa "+a, "T T T T / I Aa "+b)
				goesTo(t, want, "T T T T", a+" I Aa", "T T T T / "+b+" I Aa")
			}
		}
	}
	for n := range 5 {
		for m := range 5 {
			goesTo(t, n == m, "T T T T", strings.Repeat("I ", n), "T T T T / "+strings.Repeat("I ", m))
		}
	}
	goesTo(t, true, "I N Aa T", "Thrown", "I N Aa T / Thrown")
	goesTo(t, false, "I N Aa T", "Thrown", "N I Aa T / Thrown")
	goesTo(t, false, "I N Aa T", "Thrown I", "I N Aa T / I Thrown")
}

func TestTraps(t *testing.T) {
	// 0 to 5 are within the method's first part; 6 is where what was thrown goes, with an int known in the last local, or not.
	const text = "const 1; store 3; const 2; pop; load 0; throw; throw"
	const thrower = "const 1; store 3; const 2; pop; null; throw; throw"
	for _, x := range []struct {
		want      bool
		map6, how string
	}{
		{true, "Bb I Aa T / Thrown", "0 6 6"}, {true, "Bb I Aa T / Thrown", "0 6 6 Thrown"}, {true, "T T T T / Thrown", "0 1 6"}, {true, "Bb I Aa T / Thrown", "5 6 6"}, {true, "Bb I Aa T / Thrown", "0 7 6"}, {true, "Bb I Aa T / Thrown", "6 7 6"},
		// The last local is an int from behind the store on.
		{true, "Bb I Aa I / Thrown", "2 6 6"}, {true, "Bb I Aa I / Thrown", "2 3 6"}, {true, "Bb I Aa I / Thrown", "5 6 6"}, {true, "Bb I Aa I / Thrown", "2 7 6"}, {true, "Bb I Aa I / Thrown", "6 7 6"},
		{false, "Bb I Aa I / Thrown", "1 6 6"}, {false, "Bb I Aa I / Thrown", "1 2 6"}, {false, "Bb I Aa I / Thrown", "0 6 6"}, {false, "Bb I Aa I / Thrown", "0 1 6"}, {false, "Bb I Aa I / Thrown", "0 7 6"},
		{false, "Bb I Aa N / Thrown", "2 6 6"}, {false, "Cc I Aa T / Thrown", "0 1 6"}, {false, "Bb N Aa T / Thrown", "5 6 6"}, {false, "Bb I Bb T / Thrown", "3 4 6"},
		// What was thrown stands alone on the stack.
		{true, "Bb I Aa T / Err", "0 6 6 Err"}, {true, "Bb I Aa T / MathErr", "0 6 6 Err"}, {true, "Bb I Aa T / Thrown", "0 6 6 Err"}, {true, "Bb I Aa T / Thrown", "0 6 6 NullErr"},
		{false, "Bb I Aa T / Err", "0 6 6"}, {false, "Bb I Aa T / Err", "0 6 6 Thrown"}, {false, "Bb I Aa T / Err", "0 6 6 MathErr"}, {false, "Bb I Aa T / Err", "0 6 6 NullErr"}, {false, "Bb I Aa T / NullErr", "0 6 6 Err"}, {false, "Bb I Aa T / N", "0 6 6"}, {false, "Bb I Aa T / N", "0 6 6 Err"},
		{false, "Bb I Aa T / I Thrown", "0 6 6"}, {false, "Bb I Aa T / Thrown Thrown", "0 6 6"}, {false, "Bb I Aa T / I Thrown", "3 4 6"}, {false, "Bb I Aa T / Thrown I", "0 6 6"},
		// It is of Thrown, and there.
		{false, "Bb I Aa T / Thrown", "0 6 6 Aa"}, {false, "Bb I Aa T / Thrown", "0 6 6 Object"}, {false, "Bb I Aa T / Thrown", "0 6 6 Ff"}, {false, "Bb I Aa T / Thrown", "0 6 6 Zz"}, {false, "Bb I Aa T / Thrown", "0 6 6 Ee"}, {false, "Bb I Aa T / Thrown", "0 6 6 Bb"},
		// The At of each has a Map.
		{false, "Bb I Aa T / Thrown", "0 6 5"}, {false, "Bb I Aa T / Thrown", "0 1 0"}, {false, "Bb I Aa T / Thrown", "3 4 4"}, {false, "Bb I Aa T / Thrown", "6 7 5"}, {false, "Bb I Aa T / Thrown", "6 7 0 Err"},
	} {
		check(t, x.want, thrower, "map 6: "+x.map6, "trap "+x.how)
		check(t, false, text, "map 6: "+x.map6, "trap "+x.how) // what is thrown there is a Bb
	}
	// To go on with an Aa or an Object is another thing than to trap it.
	for _, c := range strings.Fields("Aa Object Ff Ee Bb Hh") {
		check(t, false, "const 1; pop; ret; pop; ret", "map 3: T T T T / "+c, "trap 0 2 3 "+c)
		check(t, false, "const 1; pop; ret; pop; ret", "map 3: T T T T / Object", "trap 0 2 3 "+c)
	}
	check(t, true, "const 1; pop; ret; pop; ret", "map 3: T T T T / Object", "trap 0 2 3 Err")
	check(t, true, "const 1; pop; ret; pop; ret", "map 3: T T T T / Hh", "trap 0 2 3")
	check(t, true, "const 1; pop; ret; pop; ret", "map 3: T T T T / Object", "trap 0 2 3")
}

// Each instruction that a Trap holds is asked, the first and the last one, too, and none beside them.
func TestTrapsHoldFromTo(t *testing.T) {
	const size = 12
	text := strings.Repeat("ret; ", size) + "throw"
	for n := range size {
		// The last local is an int everywhere but ahead of the instruction n.
		more := []string{"static", "params I I I I"}
		for at := range size {
			last := "I"
			if at == n {
				last = "T"
			}
			more = append(more, "map "+itoa(at)+": T T T "+last+" /")
		}
		more = append(more, "map "+itoa(size)+": T T T I / Thrown")
		for from := range size {
			for to := from + 1; to <= size; to++ {
				trap := strings.Join([]string{"trap", itoa(from), itoa(to), itoa(size)}, " ")
				checkIn(t, "Bb", body(text, append(more[:len(more):len(more)], trap)...), n < from || n >= to)
			}
		}
	}
}

// Within a Trap, too, a Map's word goes ahead of what was known.
func TestTrapsAskTheMap(t *testing.T) {
	const text = "const 1; store 3; const 2; pop; ret; throw"
	for _, x := range []struct {
		want             bool
		map2, map5, trap string
	}{
		{true, "T T T I /", "T T T I / Thrown", "2 5 5"}, {true, "T T T T /", "T T T T / Thrown", "2 5 5"},
		{false, "T T T T /", "T T T I / Thrown", "2 5 5"}, {false, "T T T T /", "T T T I / Thrown", "2 3 5"}, {false, "T T T T /", "T T T I / Thrown", "3 4 5"}, {false, "T T T T /", "T T T I / Thrown", "4 5 5"},
		{false, "Aa I Aa T /", "Bb T T T / Thrown", "2 3 5"}, {true, "Aa I Aa T /", "Bb T T T / Thrown", "0 2 5"}, {true, "Aa I Aa T /", "Aa T T T / Thrown", "0 5 5"},
	} {
		check(t, x.want, text, "map 2: "+x.map2, "map 5: "+x.map5, "trap "+x.trap)
	}
}

// Of several Traps, each is asked.
func TestManyTraps(t *testing.T) {
	right := []string{"trap 0 4 4", "trap 0 4 5 Err", "trap 1 2 4 NullErr", "trap 3 4 5 Err", "trap 4 5 4", "trap 0 6 4"}
	more := []string{"map 4: T T T T / Thrown", "map 5: Bb I T T / Err"}
	const text = "const 1; store 3; null; throw; throw; throw"
	holds := func(want bool, traps []string) {
		t.Helper()
		check(t, want, text, append(more[:2:2], traps...)...)
	}
	holds(true, nil)
	for n := range right {
		holds(true, right[:n+1])
		for _, wrong := range []string{"trap 0 4 5", "trap 0 1 3", "trap 0 1 0", "trap 3 4 4 Aa", "trap 1 2 4 Zz", "trap 2 3 5 MathErr", "trap 4 5 5 Err"} {
			traps := slices.Clone(right)
			traps[n] = wrong
			holds(false, traps)
		}
	}
}

// A stack of just as many as the most that ever stand there is high enough, and one less is not.
func TestStackIsAsHighAsItGoes(t *testing.T) {
	for _, i := range instances() {
		takes, leaves := strings.Fields(i.takes), strings.Fields(i.leaves)
		if strings.Fields(i.x)[0] == "dup" {
			leaves = []string{"I", "I"}
		}
		for below := range 4 {
			under := strings.Repeat("I ", below)
			most := below + max(len(takes), len(leaves))
			for room := most; room <= api.MaxStack; room++ {
				checkIn(t, "Bb", highest(i, under, room), true)
			}
			if len(leaves) > len(takes) {
				checkIn(t, "Bb", highest(i, under, most-1), false)
			}
		}
	}
}

// highest gives a method that puts nothing on the stack beside what i leaves.
func highest(i instance, under string, room int) api.Method {
	x := i.x
	more := []string{"stack " + itoa(room), "map 1: Bb I Aa T / " + under + strings.Join(best(i.takes), " ")}
	if jumps(ins(x)) {
		x = strings.Replace(x, " 3", " 2", 1)
	}
	if jumps(ins(x)) || ends(ins(x)) {
		more = append(more, "map 2: T T T T / "+under)
	}
	return body("ret; "+x+"; ret", more...)
}

func TestStackGrowsAndShrinks(t *testing.T) {
	for n := range api.MaxStack + 2 {
		text := strings.Repeat("const 1; ", n) + strings.Repeat("pop; ", n) + "ret"
		for room := range api.MaxStack + 1 {
			check(t, n <= room, text, "stack "+itoa(room))
			check(t, n <= room, strings.Repeat("null; ", n)+"ret", "stack "+itoa(room))
			check(t, max(2, n) <= room, "const 1; dup; add; dup; add"+strings.Repeat("; dup", max(1, n)-1)+"; ret", "stack "+itoa(room))
		}
	}
}
