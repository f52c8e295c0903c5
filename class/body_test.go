package class_test

import (
	"fmt"
	"math"
	"testing"

	"daguerre/api"
)

func TestLocals(t *testing.T) {
	for params := range 7 {
		for _, static := range []bool{true, false} {
			least := params
			if !static {
				least = params + 1
			}
			for _, n := range upTo(-3, 40) {
				m := runs("f", 1)
				m.Static, m.Params, m.Locals = static, same(params, "I"), n
				checkMay(t, fmt.Sprint(params, " Params, Static ", static, ", Locals ", n), with(m), least <= n && n <= 16)
			}
		}
	}
}

func TestStack(t *testing.T) {
	for _, static := range []bool{true, false} {
		for _, n := range upTo(-3, 40) {
			m := runs("f", 1)
			m.Static, m.Locals, m.Stack = static, 1, n
			checkMay(t, fmt.Sprint("Static ", static, ", Stack ", n), with(m), 0 <= n && n <= 16)
		}
	}
}

// each gives an instruction of each number that may be.
func each() []api.Ins {
	list := many(61, func(i int) api.Ins { return api.Ins{Op: i + 1} })
	for i := range list {
		switch x := &list[i]; {
		case x.Op == api.ONew, x.Op == api.ONewa, x.Op == api.OCast, x.Op == api.OInst:
			x.C = "Ab"
		case api.OGetf <= x.Op && x.Op <= api.OCalli:
			x.C, x.M = "Ab", "f"
		}
	}
	return list
}

func TestLastInstruction(t *testing.T) {
	ends := []int{api.OGoto, api.ORet, api.OIret, api.OAret, api.OThrow, api.OExit}
	for _, x := range each() {
		want := false
		for _, op := range ends {
			want = want || x.Op == op
		}
		for _, n := range []int{0, 1, 2, 98, 99} {
			m := runs("f", n)
			m.Code = append(m.Code, x)
			checkMay(t, fmt.Sprint("the last of ", n+1, " is ", x), with(m), want)
			m.Code = append([]api.Ins{x}, same(n, ret())...)
			checkMay(t, fmt.Sprint("the first of ", n+1, " is ", x), with(m), want || n > 0)
		}
	}
}

// What goes on ahead of the last one is no fault, and what ends ahead of it no help.
func TestEndsAhead(t *testing.T) {
	pop := api.Ins{Op: api.OPop}
	for _, c := range []struct {
		code []api.Ins
		want bool
	}{
		{[]api.Ins{pop, ret()}, true},
		{[]api.Ins{ret(), pop}, false},
		{[]api.Ins{ret(), pop, ret()}, true},
		{[]api.Ins{jump(api.OGoto, 1), ret(), jump(api.OIfeq, 0)}, false},
		{[]api.Ins{jump(api.OGoto, 0)}, true},
	} {
		m := runs("f", 0)
		m.Code = c.code
		checkMay(t, fmt.Sprint(c.code), with(m), c.want)
	}
}

func TestJumps(t *testing.T) {
	for op := api.OGoto; op <= api.OOther; op++ {
		for _, size := range []int{2, 3, 17, 99, 100} {
			for _, from := range []int{0, (size - 1) / 2, size - 2} {
				for _, at := range upTo(-2, 103) {
					m := runs("f", size)
					m.Code[from] = jump(op, at)
					checkMay(t, fmt.Sprint(op, " of ", size, " from ", from, " to ", at), with(m), 0 <= at && at < size)
				}
			}
		}
	}
	for size := 1; size <= 100; size++ {
		for at := range 102 {
			m := runs("f", size)
			m.Code[size-1] = jump(api.OGoto, at)
			checkMay(t, fmt.Sprint("the last of ", size, " to ", at), with(m), at < size)
		}
	}
}

// A number or a local is no place to go to.
func TestNumbersThatDoNotJump(t *testing.T) {
	m := runs("f", 1)
	m.Code = []api.Ins{{Op: api.OConst, A: math.MaxInt32}, {Op: api.OConst, A: math.MinInt32}, {Op: api.OLoad, A: 15}, {Op: api.OStore, A: 15}, {Op: api.ORet}}
	checkMay(t, "numbers beyond the instructions", with(m), true)
}

func TestInstructionsThatMayNotBe(t *testing.T) {
	for _, x := range []api.Ins{{}, {Op: -1}, {Op: 62}, {Op: math.MinInt}, {Op: math.MaxInt}, {Op: api.ORet, A: 1}, {Op: api.ORet, C: "Ab"}, {Op: api.ORet, M: "f"}, {Op: api.OConst, A: 1 << 31}, {Op: api.OLoad, A: 16}, {Op: api.OStore, A: -1}, {Op: api.ONew}, {Op: api.ONew, C: "[Ab"}, {Op: api.ONewa, C: "I"}, {Op: api.OGetf, C: "Ab"}, {Op: api.OCalls, C: "Ab", M: "$init"}, {Op: api.OGoto, A: 0, C: "Ab"}, {Op: api.OThrow, A: -1}} {
		for _, at := range []int{0, 1, 50, 98, 99} {
			m := runs("f", 100)
			m.Code[at] = x
			checkMay(t, fmt.Sprint(x, " at ", at), with(m), false)
		}
	}
	for _, x := range each() {
		m := runs("f", 100)
		m.Code[50] = x
		checkMay(t, fmt.Sprint(x, " at 50"), with(m), true)
	}
}

func TestTraps(t *testing.T) {
	for _, size := range []int{1, 2, 5, 100} {
		near := append(far(), -3, 0, 1, 2, 3, 4, 5, 6, 7, 98, 99, 100)
		for _, from := range near {
			for _, to := range near {
				for _, at := range near {
					x := api.Trap{From: from, To: to, At: at}
					m := runs("f", size)
					m.Traps = []api.Trap{x}
					want := 0 <= from && from < to && to <= size && 0 <= at && at < size
					checkMay(t, fmt.Sprint(x, " of ", size), with(m), want)
				}
			}
		}
	}
}

func TestTrapsWrittenOut(t *testing.T) {
	for _, c := range []struct {
		x    api.Trap
		want bool
	}{
		{api.Trap{From: 0, To: 1, At: 0}, true},
		{api.Trap{From: 0, To: 5, At: 4}, true},
		{api.Trap{From: 4, To: 5, At: 0, C: "Ab"}, true},
		{api.Trap{From: 2, To: 3, At: 2, C: "Object"}, true},
		{api.Trap{}, false},
		{api.Trap{From: -1, To: 5, At: 0}, false},
		{api.Trap{From: 3, To: 3, At: 0}, false},
		{api.Trap{From: 4, To: 3, At: 0}, false},
		{api.Trap{From: 5, To: 5, At: 0}, false},
		{api.Trap{From: 5, To: 6, At: 0}, false},
		{api.Trap{From: 0, To: 6, At: 0}, false},
		{api.Trap{From: 0, To: 5, At: 5}, false},
		{api.Trap{From: 0, To: 5, At: -1}, false},
		{api.Trap{From: 0, To: 5, At: 0, C: "I"}, false},
		{api.Trap{From: 0, To: 5, At: 0, C: "[Ab"}, false},
		{api.Trap{From: 0, To: 5, At: 0, C: "ab"}, false},
	} {
		for at := range 6 {
			m := runs("f", 5)
			m.Traps = same(6, api.Trap{To: 1})
			m.Traps[at] = c.x
			checkMay(t, fmt.Sprint(c.x, " at ", at), with(m), c.want)
		}
	}
}

// Traps neither rise nor are they unlike.
func TestTrapsInAnyOrder(t *testing.T) {
	m := runs("f", 5)
	m.Traps = []api.Trap{{From: 4, To: 5, At: 4}, {From: 0, To: 5, At: 0}, {From: 4, To: 5, At: 4}, {From: 1, To: 2, At: 1}}
	checkMay(t, "Traps in any order", with(m), true)
}

func TestMapsRise(t *testing.T) {
	near := upTo(-3, 8)
	for _, a := range near {
		m := runs("f", 5)
		m.Maps = []api.Map{{At: a}}
		checkMay(t, fmt.Sprint("a Map at ", a), with(m), 0 <= a && a < 5)
		for _, b := range near {
			for _, c := range near {
				m.Maps = []api.Map{{At: a}, {At: b}, {At: c}}
				checkMay(t, fmt.Sprint("Maps at ", a, b, c), with(m), 0 <= a && a < b && b < c && c < 5)
			}
		}
	}
}

// More Maps than there may be would have to lie outside or not to rise: each of these ways is told.
func TestMapsTooMany(t *testing.T) {
	for what, at := range map[string]func(i int) int{
		"beyond":     func(i int) int { return i },
		"ahead":      func(i int) int { return i - 1 },
		"twice last": func(i int) int { return min(i, 99) },
		"at one":     func(i int) int { return 0 },
		"falling":    func(i int) int { return 100 - i },
	} {
		m := runs("f", 100)
		m.Maps = many(101, func(i int) api.Map { return api.Map{At: at(i)} })
		checkMay(t, "101 Maps, "+what, with(m), false)
	}
}

func TestHowManyInAMap(t *testing.T) {
	for locals := range 17 {
		for stack := range 17 {
			for _, n := range []int{0, 1, locals - 1, locals, locals + 1, 16, 17, 300} {
				for _, k := range []int{0, 1, stack - 1, stack, stack + 1, 16, 17, 300} {
					if n < 0 || k < 0 {
						continue
					}
					m := runs("f", 3)
					m.Locals, m.Stack = locals, stack
					m.Maps = []api.Map{{At: 1, Locals: same(n, "I"), Stack: same(k, "I")}}
					want := n == locals && k <= stack
					checkMay(t, fmt.Sprint(n, " of ", locals, " locals, ", k, " on a stack of ", stack), with(m), want)
					m.Maps = []api.Map{{At: 0, Locals: same(locals, "T")}, m.Maps[0]}
					checkMay(t, fmt.Sprint("then ", n, " of ", locals, " locals, ", k, " on a stack of ", stack), with(m), want)
				}
			}
		}
	}
}

// Each place of a Map is asked, not only the outer ones.
func TestEachPlaceOfAMap(t *testing.T) {
	for _, c := range []struct {
		s               string
		locals, stacked bool
	}{
		{"I", true, true}, {"N", true, true}, {"T", true, false}, {"V", false, false},
		{"Ab", true, true}, {"[I", true, true}, {"[[Ab", true, true},
		{"", false, false}, {"A", false, false}, {"[T", false, false}, {"[N", false, false}, {"[[[I", false, false}, {"f", false, false}, {"$init", false, false},
	} {
		for at := range 16 {
			m := runs("f", 1)
			m.Locals, m.Stack = 16, 16
			m.Maps = []api.Map{{Locals: same(16, "I"), Stack: same(16, "I")}}
			m.Maps[0].Locals[at] = c.s
			checkMay(t, fmt.Sprintf("local %d: %q", at, c.s), with(m), c.locals)
			m.Maps[0].Locals[at], m.Maps[0].Stack[at] = "I", c.s
			checkMay(t, fmt.Sprintf("stack %d: %q", at, c.s), with(m), c.stacked)
		}
	}
}

// A Map that may not be is told at each place among others.
func TestEachMap(t *testing.T) {
	for at := range 5 {
		for what, x := range map[string]api.Map{
			"a local too few":   {At: at, Locals: []string{"I"}},
			"a local too many":  {At: at, Locals: same(3, "I")},
			"a wrong local":     {At: at, Locals: []string{"I", "V"}},
			"T on the stack":    {At: at, Locals: same(2, "T"), Stack: []string{"T"}},
			"too much of stack": {At: at, Locals: same(2, "T"), Stack: same(4, "I")},
			"at another place":  {At: at + 1, Locals: same(2, "T")},
			"ahead":             {At: at - 1, Locals: same(2, "T")},
		} {
			c := changed(func(m *api.Method) {
				m.Maps = many(5, func(i int) api.Map { return api.Map{At: i, Locals: same(2, "T")} })
				m.Maps[at] = x
			})
			checkMay(t, fmt.Sprint(what, " at ", at), c, false)
		}
	}
}

// One method that may not be is enough, wherever it stands; what may be elsewhere is no help.
func TestEachMethodIsAsked(t *testing.T) {
	for at := range 8 {
		c := with(many(8, func(i int) api.Method { return runs(memberName(i), 3) })...)
		checkMay(t, "eight", c, true)
		for what, change := range map[string]func(m *api.Method){
			"a Name":      func(m *api.Method) { m.Name = "F" },
			"a Param":     func(m *api.Method) { m.Params, m.Locals = []string{"V"}, 1 },
			"Ret":         func(m *api.Method) { m.Ret = "N" },
			"Locals":      func(m *api.Method) { m.Locals = 17 },
			"Stack":       func(m *api.Method) { m.Stack = 17 },
			"Code":        func(m *api.Method) { m.Code[1] = api.Ins{} },
			"Traps":       func(m *api.Method) { m.Traps = make([]api.Trap, 1) },
			"Maps":        func(m *api.Method) { m.Maps = []api.Map{{Stack: []string{"I"}}} },
			"its object":  func(m *api.Method) { m.Static = false },
			"is abstract": func(m *api.Method) { m.Abstract = true },
		} {
			bad := runs(memberName(at), 3)
			change(&bad)
			c.Methods[at] = bad
			checkMay(t, fmt.Sprint(what, " at ", at), c, false)
		}
	}
}
