package class_test

import (
	"fmt"
	"testing"

	"daguerre/api"
	"daguerre/class"
)

func TestMayOfOrdinaryOnes(t *testing.T) {
	checkMay(t, "whole", whole(), true)
	checkMay(t, "of two names alone", api.Class{Name: "Ab", Super: "Xy"}, true)
	checkMay(t, "below itself", api.Class{Name: "Ab", Super: "Ab", Impl: []string{"Ab"}}, true)
	checkMay(t, "of empty lists", api.Class{Name: "Ab", Super: "Xy", Impl: []string{}, Fields: []api.Field{}, Methods: []api.Method{}}, true)
	checkMay(t, "an interface of nothing", face(), true)
	checkMay(t, "an interface", face(abstract("f"), abstract("g")), true)
	checkMay(t, "zero", api.Class{}, false)
	checkMay(t, "a zero interface", api.Class{Interface: true}, false)
	checkMay(t, "no Super", api.Class{Name: "Ab"}, false)
	checkMay(t, "no Name", api.Class{Super: "Ab"}, false)
	checkMay(t, "a zero field", api.Class{Name: "Ab", Super: "Xy", Fields: make([]api.Field, 1)}, false)
	checkMay(t, "a zero method", with(api.Method{}), false)
}

// A count goes up to its bound, whatever the elements beyond it are.
func TestEachCount(t *testing.T) {
	for _, c := range []struct {
		what        string
		least, most int
		of          func(n int) api.Class
	}{
		{"Impl", 0, 4, func(n int) api.Class {
			return api.Class{Name: "Ab", Super: "Xy", Impl: many(n, className)}
		}},
		{"Impl of an interface", 0, 4, func(n int) api.Class {
			return api.Class{Name: "Ab", Super: "Object", Interface: true, Impl: many(n, className)}
		}},
		{"Fields", 0, 8, func(n int) api.Class {
			return api.Class{Name: "Ab", Super: "Xy", Fields: many(n, func(i int) api.Field { return api.Field{Name: memberName(i), Type: "I", Static: i%2 == 0} })}
		}},
		{"Methods", 0, 8, func(n int) api.Class {
			return with(many(n, func(i int) api.Method { return runs(memberName(i), 1) })...)
		}},
		{"Methods of an interface", 0, 8, func(n int) api.Class {
			return face(many(n, func(i int) api.Method { return abstract(memberName(i)) })...)
		}},
		{"Params, static", 0, 6, func(n int) api.Class {
			m := runs("f", 1)
			m.Params, m.Locals = same(n, "I"), 16
			return with(m)
		}},
		{"Params of an object's", 0, 6, func(n int) api.Class {
			m := runs("f", 1)
			m.Static, m.Params, m.Locals = false, same(n, "[Ab"), 16
			return with(m)
		}},
		{"Params, abstract", 0, 6, func(n int) api.Class {
			m := abstract("f")
			m.Params = same(n, "Ab")
			return face(m)
		}},
		{"Code", 1, 100, func(n int) api.Class { return with(runs("f", n)) }},
		{"Code of $init", 1, 100, func(n int) api.Class { return with(runs("$init", n)) }},
		{"Traps", 0, 6, func(n int) api.Class {
			m := runs("f", 1)
			m.Traps = same(n, api.Trap{To: 1})
			return with(m)
		}},
		{"Maps", 0, 100, func(n int) api.Class {
			m := runs("f", 100)
			m.Maps = many(n, func(i int) api.Map { return api.Map{At: i} })
			return with(m)
		}},
	} {
		for n := range 130 {
			checkMay(t, fmt.Sprint(n, " ", c.what), c.of(n), c.least <= n && n <= c.most)
		}
		for _, n := range []int{255, 256, 257, 258, 1000, 65537} {
			checkMay(t, fmt.Sprint(n, " ", c.what), c.of(n), false)
		}
	}
}

// All counts at their bounds at once.
func TestGreatest(t *testing.T) {
	c := api.Class{Name: "Abcdefgh", Super: "Abcdefgh", Impl: many(4, className)}
	c.Fields = many(8, func(i int) api.Field { return api.Field{Name: memberName(i), Type: "[[Abcdefgh"} })
	c.Methods = many(8, func(i int) api.Method {
		m := runs(memberName(i), 100)
		m.Static, m.Params, m.Ret, m.Locals, m.Stack = false, same(6, "[[Abcdefgh"), "[[Abcdefgh", 16, 16
		m.Traps = same(6, api.Trap{From: 99, To: 100, At: 99, C: "Abcdefgh"})
		m.Maps = many(100, func(i int) api.Map {
			return api.Map{At: i, Locals: same(16, "[[Abcdefgh"), Stack: same(16, "[[Abcdefgh")}
		})
		return m
	})
	checkMay(t, "the greatest", c, true)
	if !class.Eq(c, c) || class.Method(c, "m7") != 7 || class.Field(c, "m7") != 7 {
		t.Error("the greatest is not itself")
	}
}

// Two of one name may not be, wherever they stand and whatever else they are.
func TestTwoOfOneName(t *testing.T) {
	for i := range 8 {
		for j := range i {
			if i < 4 {
				c := api.Class{Name: "Ab", Super: "Xy", Impl: many(4, className)}
				c.Impl[i] = c.Impl[j]
				checkMay(t, fmt.Sprint("Impl ", j, i), c, false)
			}
			c := api.Class{Name: "Ab", Super: "Xy", Fields: many(8, func(i int) api.Field { return api.Field{Name: memberName(i), Type: "I"} })}
			checkMay(t, "Fields unlike", c, true)
			c.Fields[i] = api.Field{Name: c.Fields[j].Name, Type: "[I", Static: true}
			checkMay(t, fmt.Sprint("Fields ", j, i), c, false)
			c = with(many(8, func(i int) api.Method { return runs(memberName(i), 1) })...)
			checkMay(t, "Methods unlike", c, true)
			c.Methods[i] = api.Method{Name: c.Methods[j].Name, Params: []string{"I"}, Ret: "I", Locals: 2, Code: []api.Ins{{Op: api.OIret}}}
			checkMay(t, fmt.Sprint("Methods ", j, i), c, false)
			c = face(many(8, func(i int) api.Method { return abstract(memberName(i)) })...)
			c.Methods[i] = api.Method{Name: c.Methods[j].Name, Params: []string{"I"}, Ret: "I", Abstract: true}
			checkMay(t, fmt.Sprint("Methods of an interface ", j, i), c, false)
		}
	}
	checkMay(t, "two $init", with(runs("$init", 1), runs("$init", 2)), false)
}

// Unlike are fields among fields, methods among methods and Impl among Impl: not one against the other.
func TestOneNameInTwoLists(t *testing.T) {
	c := with(runs("x", 1), runs("y", 1))
	c.Fields = []api.Field{{Name: "y", Type: "I"}, {Name: "x", Type: "Ab", Static: true}}
	c.Impl = []string{"Ab", "Xy"}
	checkMay(t, "a field and a method of one name", c, true)
}

// Of each part that is a text, each text: at the front of its list and behind others.
func TestEachText(t *testing.T) {
	for _, c := range []struct {
		what string
		put  func(c *api.Class, s string)
		want func(x text) bool
	}{
		{"Name", func(c *api.Class, s string) { c.Name = s }, isClass},
		{"Super", func(c *api.Class, s string) { c.Super = s }, isClass},
		{"Impl", func(c *api.Class, s string) { c.Impl = []string{s} }, isClass},
		{"the last Impl", func(c *api.Class, s string) { c.Impl = []string{"Un", "Like", "These", s} }, isClass},
		{"a field's Name", func(c *api.Class, s string) { c.Fields[0].Name = s }, isOwnName},
		{"the last field's Name", func(c *api.Class, s string) { c.Fields[2].Name = s }, isOwnName},
		{"a static field's Name", func(c *api.Class, s string) { c.Fields[1].Name = s }, isOwnName},
		{"a field's Type", func(c *api.Class, s string) { c.Fields[0].Type = s }, isType},
		{"the last field's Type", func(c *api.Class, s string) { c.Fields[2].Type = s }, isType},
		{"a method's Name", func(c *api.Class, s string) { c.Methods[0].Name = s }, isOwnName},
		{"a static method's Name", func(c *api.Class, s string) { c.Methods = []api.Method{runs(s, 1)} }, isName},
		{"the last method's Name", func(c *api.Class, s string) { c.Methods[1].Name, c.Methods[2].Name = "un", s }, isName},
		{"a Param", func(c *api.Class, s string) { c.Methods[0].Params[0] = s }, isType},
		{"the last Param", func(c *api.Class, s string) {
			c.Methods[2].Params, c.Methods[2].Locals = []string{"I", "Ab", "I", "I", "[I", s}, 6
		}, isType},
		{"Ret", func(c *api.Class, s string) { c.Methods[0].Ret = s }, isRet},
		{"the last Ret", func(c *api.Class, s string) { c.Methods[2].Ret = s }, isRet},
		{"a Trap's C", func(c *api.Class, s string) { c.Methods[0].Traps[0].C = s }, isClassOrNone},
		{"the last Trap's C", func(c *api.Class, s string) { c.Methods[0].Traps[1].C = s }, isClassOrNone},
		{"a Map's local", func(c *api.Class, s string) { c.Methods[0].Maps[0].Locals[0] = s }, isLocal},
		{"the last Map's last local", func(c *api.Class, s string) { c.Methods[0].Maps[1].Locals[1] = s }, isLocal},
		{"on a Map's stack", func(c *api.Class, s string) { c.Methods[0].Maps[0].Stack[0] = s }, isStacked},
		{"last on a Map's stack", func(c *api.Class, s string) { c.Methods[0].Maps[0].Stack[1] = s }, isStacked},
		{"on the last Map's stack", func(c *api.Class, s string) { c.Methods[0].Maps[1].Stack[0] = s }, isStacked},
	} {
		for _, x := range texts() {
			whole := whole()
			c.put(&whole, x.s)
			checkMay(t, fmt.Sprintf("%s %.20q", c.what, x.s), whole, c.want(x))
		}
	}
}

func isClass(x text) bool { return x.aClass }

func isClassOrNone(x text) bool { return x.aClass || x.s == "" }

func isName(x text) bool { return x.aName }

func isOwnName(x text) bool { return x.aName && x.s != "$init" }

func isType(x text) bool { return x.aType }

func isRet(x text) bool { return x.aType || x.s == "V" }

func isStacked(x text) bool { return x.aType || x.s == "N" }

func isLocal(x text) bool { return x.aType || x.s == "N" || x.s == "T" }

// The same of an interface, whose Super is one alone and whose methods' names leave $init out.
func TestEachTextOfAnInterface(t *testing.T) {
	for _, c := range []struct {
		what string
		put  func(c *api.Class, s string)
		want func(x text) bool
	}{
		{"Name", func(c *api.Class, s string) { c.Name = s }, isClass},
		{"Super", func(c *api.Class, s string) { c.Super = s }, func(x text) bool { return x.s == "Object" }},
		{"Impl", func(c *api.Class, s string) { c.Impl = []string{"Un", s} }, isClass},
		{"a method's Name", func(c *api.Class, s string) { c.Methods[0].Name = s }, isOwnName},
		{"the last method's Name", func(c *api.Class, s string) { c.Methods[1].Name = s }, isOwnName},
		{"a Param", func(c *api.Class, s string) { c.Methods[0].Params = []string{s} }, isType},
		{"the last Param", func(c *api.Class, s string) { c.Methods[1].Params = []string{"I", "I", "I", "I", "I", s} }, isType},
		{"Ret", func(c *api.Class, s string) { c.Methods[0].Ret = s }, isRet},
		{"the last Ret", func(c *api.Class, s string) { c.Methods[1].Ret = s }, isRet},
	} {
		for _, x := range texts() {
			whole := face(abstract("un"), abstract("like"))
			c.put(&whole, x.s)
			checkMay(t, fmt.Sprintf("%s %.20q", c.what, x.s), whole, c.want(x))
		}
	}
	for _, s := range []string{"Objec", "Objects", "object", "OBJECT", "Object ", "Thrown"} {
		c := face()
		c.Super = s
		checkMay(t, "below "+s, c, false)
	}
}

func TestInterfaceWithFields(t *testing.T) {
	for _, f := range []api.Field{{Name: "x", Type: "I"}, {Name: "x", Type: "Ab", Static: true}, {}} {
		c := face()
		c.Fields = []api.Field{f}
		checkMay(t, fmt.Sprint("an interface with ", f), c, false)
		c.Fields = c.Fields[:0]
		checkMay(t, "an interface with no field and room for one", c, true)
	}
}

// One method of the other sort is enough, wherever it stands.
func TestMethodsOfTheOtherSort(t *testing.T) {
	for at := range 8 {
		for _, m := range []api.Method{runs("x", 1), runs("$init", 1), {Name: "x", Ret: "V", Locals: 1, Code: same(1, ret())}, {Name: "x", Ret: "V"}, {Name: "x", Ret: "V", Static: true}} {
			c := face(many(8, func(i int) api.Method { return abstract(memberName(i)) })...)
			checkMay(t, "all abstract", c, true)
			c.Methods[at] = m
			checkMay(t, fmt.Sprint("an interface with ", m.Name, " at ", at), c, false)
		}
		c := with(many(8, func(i int) api.Method { return runs(memberName(i), 1) })...)
		c.Methods[at] = abstract("x")
		checkMay(t, fmt.Sprint("a class with an abstract one at ", at), c, false)
		c.Methods[at].Code, c.Methods[at].Locals = same(1, ret()), 1
		checkMay(t, fmt.Sprint("a class with an abstract one with instructions at ", at), c, false)
	}
	c := face(abstract("f"))
	c.Interface = false
	checkMay(t, "a class of abstract ones alone", c, false)
}

func TestAbstractAndAllElse(t *testing.T) {
	for what, change := range map[string]func(m *api.Method){
		"Static":               func(m *api.Method) { m.Static = true },
		"named $init":          func(m *api.Method) { m.Name = "$init" },
		"Static, named $init":  func(m *api.Method) { m.Name, m.Static = "$init", true },
		"one local":            func(m *api.Method) { m.Locals = 1 },
		"a local below none":   func(m *api.Method) { m.Locals = -1 },
		"locals for all":       func(m *api.Method) { m.Params, m.Locals = []string{"I"}, 2 },
		"a stack of one":       func(m *api.Method) { m.Stack = 1 },
		"a stack below none":   func(m *api.Method) { m.Stack = -1 },
		"an instruction":       func(m *api.Method) { m.Code = same(1, ret()) },
		"a zero instruction":   func(m *api.Method) { m.Code = make([]api.Ins, 1) },
		"a Map":                func(m *api.Method) { m.Maps = make([]api.Map, 1) },
		"a Trap":               func(m *api.Method) { m.Traps = make([]api.Trap, 1) },
		"a Trap that reaches":  func(m *api.Method) { m.Traps = []api.Trap{{To: 1}} },
		"all that a class has": func(m *api.Method) { *m = step(); m.Abstract = true },
	} {
		for _, at := range []int{0, 1} {
			c := face(abstract("f"), abstract("g"))
			change(&c.Methods[at])
			checkMay(t, fmt.Sprint("abstract at ", at, " with ", what), c, false)
		}
	}
	m := abstract("f")
	m.Code, m.Maps, m.Traps, m.Params = []api.Ins{}, []api.Map{}, []api.Trap{}, []string{}
	checkMay(t, "abstract with empty lists", face(m), true)
}

func TestInit(t *testing.T) {
	for what, change := range map[string]func(m *api.Method){
		"not Static":              func(m *api.Method) { m.Static, m.Locals = false, 1 },
		"not Static, no local":    func(m *api.Method) { m.Static = false },
		"a parameter":             func(m *api.Method) { m.Params, m.Locals = []string{"I"}, 1 },
		"six parameters":          func(m *api.Method) { m.Params, m.Locals = same(6, "Ab"), 6 },
		"another Ret: I":          func(m *api.Method) { m.Ret, m.Code = "I", []api.Ins{{Op: api.OIret}} },
		"another Ret: Ab":         func(m *api.Method) { m.Ret, m.Code = "Ab", []api.Ins{{Op: api.OAret}} },
		"another Ret: [I":         func(m *api.Method) { m.Ret = "[I" },
		"no Ret":                  func(m *api.Method) { m.Ret = "" },
		"no instructions":         func(m *api.Method) { m.Code = nil },
		"an end that goes on":     func(m *api.Method) { m.Code[0].Op = api.OPop },
		"a jump beyond":           func(m *api.Method) { m.Code[0] = jump(api.OGoto, 1) },
		"an instruction too many": func(m *api.Method) { m.Code = same(101, ret()) },
		"a local too many":        func(m *api.Method) { m.Locals = 17 },
		"a stack too great":       func(m *api.Method) { m.Stack = 17 },
		"a Map without":           func(m *api.Method) { m.Maps = []api.Map{{At: 1}} },
		"a Trap without":          func(m *api.Method) { m.Traps = []api.Trap{{To: 2}} },
	} {
		for _, at := range []int{0, 1} {
			c := with(runs("f", 1), runs("g", 1))
			c.Methods[at] = runs("$init", 1)
			checkMay(t, "$init", c, true)
			change(&c.Methods[at])
			checkMay(t, fmt.Sprint("$init at ", at, ": ", what), c, false)
		}
	}
	m := runs("$init", 3)
	m.Locals, m.Stack, m.Params = 16, 16, []string{}
	m.Maps, m.Traps = []api.Map{{At: 2, Locals: same(16, "T")}}, []api.Trap{{To: 3}}
	checkMay(t, "$init with all that it may have", with(m), true)
}

// Another name is held to none of what $init is held to.
func TestNearInit(t *testing.T) {
	m := step()
	m.Name = "init"
	checkMay(t, "init", with(m), true)
}
