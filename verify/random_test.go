package verify_test

import (
	"cmp"
	"slices"
	"strings"
	"testing"

	"daguerre/api"
	"daguerre/class"
	"daguerre/verify"
)

// pool gives the instructions of the table's cases, and those that they leave out.
func pool() []string {
	var list []string
	for _, i := range instances() {
		list = append(list, i.x)
	}
	list = append(list, texts("load 3, load 4, load 5, store 2, store 4, load 3, load 4, iret, aret, gets Aa z, callv Aa z, newa [Bb, newa Cc, cast Gg, new Cc, new Ee, new Cc, in, null")...)
	return slices.DeleteFunc(list, func(x string) bool { return strings.HasPrefix(x, "goto") })
}

// A maker makes methods that may run, step by step, by the reckoning.
type maker struct {
	dice
	work
	pool []string
	now  stand // what stands behind the last instruction
	on   bool  // it goes on
	open []open
}

// open is a jump whose place is still to be made.
type open struct {
	at int
	s  stand
}

func (d *maker) typ() string { return d.of(strings.Fields(onStack)) }

// wider gives a stand to which s goes, mostly.
func (d *maker) wider(s stand) stand {
	to := stand{slices.Clone(s.locals), slices.Clone(s.stack)}
	for i := range to.locals {
		switch d.below(8) {
		case 0:
			to.locals[i] = "T"
		case 1:
			to.locals[i] = d.above1(to.locals[i])
		}
	}
	for i := range to.stack {
		if d.below(5) == 0 {
			to.stack[i] = d.above1(to.stack[i])
		}
	}
	return to
}

// above1 gives a type of the pool that t fits.
func (d *maker) above1(t string) string {
	for range 8 {
		if to := d.typ(); d.fits(t, to) && d.there(to) {
			return to
		}
	}
	return t
}

func (d *maker) lay(s stand) {
	d.m.Maps = append(d.m.Maps, api.Map{At: len(d.m.Code), Locals: s.locals, Stack: s.stack})
	d.now, d.on = s, true
}

// add appends x, if it may stand there.
func (d *maker) add(x api.Ins) bool {
	to, ok := d.step(d.now, x)
	if !ok {
		return false
	}
	if jumps(x) && !d.aim(&x, to) {
		return false
	}
	d.m.Code = append(d.m.Code, x)
	d.now, d.on = to, !ends(x)
	return true
}

// aim lets x jump to one of the Maps that are there, or to one that is made later.
func (d *maker) aim(x *api.Ins, s stand) bool {
	for _, m := range d.m.Maps {
		if d.goes(s, m.At) && d.below(2) == 0 {
			x.A = m.At
			return true
		}
	}
	if len(d.open) == 4 {
		return false
	}
	d.open = append(d.open, open{len(d.m.Code), s})
	return true
}

func (d *maker) grow(n int) {
	for range n {
		if !d.on {
			d.lay(d.wider(d.now))
		} else if d.below(7) == 0 {
			d.lay(d.wider(d.now))
		}
		for range 40 {
			x := ins(d.of(d.pool))
			if d.below(12) == 0 {
				x = ins("goto 0")
			}
			if d.add(x) {
				break
			}
		}
	}
}

// end lets the method give what it must, or throw.
func (d *maker) end() {
	if len(d.now.stack) == d.m.Stack {
		d.add(ins("pop"))
	}
	switch {
	case d.m.Ret == "V" && d.below(2) == 0:
		d.add(ins("ret"))
	case d.m.Ret == "I" && d.below(2) == 0:
		d.add(ins("const 7"))
		d.add(ins("iret"))
	default:
		d.add(ins("null"))
		d.add(ins([]string{"throw", "aret"}[d.below(2)]))
	}
	if d.on {
		d.add(ins("null"))
		d.add(ins("throw"))
	}
}

func (d *maker) trap() {
	from := d.below(len(d.m.Code))
	to := from + 1 + d.below(min(6, len(d.m.Code)-from))
	s, _ := d.ahead(from)
	s.locals = slices.Clone(s.locals)
	for at := from; at < to; at++ {
		now, _ := d.ahead(at)
		for i := range s.locals {
			if !d.fits(now.locals[i], s.locals[i]) {
				s.locals[i] = "T"
			}
		}
	}
	t := api.Trap{From: from, To: to, At: len(d.m.Code), C: d.of([]string{"", "Thrown", "Err", "MathErr"})}
	s.stack = []string{t.C}
	if t.C == "" {
		s.stack = []string{"Thrown"}
	}
	d.lay(d.wider(s))
	d.m.Traps = append(d.m.Traps, t)
	d.end()
}

func (d *maker) make(c string) api.Method {
	d.c = c
	d.m = api.Method{Name: "m0", Ret: d.of([]string{"V", "V", "I", "Aa", "[I", "Ff", "Object"}), Static: d.below(3) == 0, Stack: 1 + d.below(6)}
	for range d.below(4) {
		d.m.Params = append(d.m.Params, d.of([]string{"I", "Aa", "Bb", "Cc", "[I", "[Aa", "[[I", "Ff", "Object", "Err"}))
	}
	d.m.Locals = len(d.m.Params) + d.below(4)
	if !d.m.Static {
		d.m.Locals++
	}
	d.open, d.now, d.on = nil, d.begin(), true
	d.grow(2 + d.below(16))
	if !d.on {
		d.lay(d.wider(d.now))
	}
	d.end()
	for _, o := range d.open {
		d.m.Code[o.at].A = len(d.m.Code)
		d.lay(d.wider(o.s))
		d.end()
	}
	for range d.below(3) {
		d.trap()
	}
	slices.SortFunc(d.m.Maps, func(a, b api.Map) int { return cmp.Compare(a.At, b.At) })
	d.m.Maps = slices.CompactFunc(d.m.Maps, func(a, b api.Map) bool { return a.At == b.At })
	return d.m
}

// turn changes one thing of the method that was made.
func (d *maker) turn() {
	m := &d.m
	at := d.below(len(m.Code))
	switch d.below(10) {
	case 0, 1:
		m.Code[at] = ins(d.of(d.pool))
	case 2:
		if jumps(m.Code[at]) {
			m.Code[at].A = d.below(len(m.Code))
		}
	case 3:
		m.Stack = max(0, m.Stack-1)
	case 4:
		m.Ret = d.of([]string{"V", "I", "Aa", "[I", "Ff", "Object", "Zz", "Cc"})
	case 5:
		m.Traps = append(m.Traps, api.Trap{From: at, To: at + 1, At: d.below(len(m.Code)), C: d.of([]string{"", "Err", "Aa"})})
	default:
		d.turnMap()
	}
}

func (d *maker) turnMap() {
	m := &d.m
	if len(m.Maps) == 0 {
		return
	}
	x := &m.Maps[d.below(len(m.Maps))]
	*x = api.Map{At: x.At, Locals: slices.Clone(x.Locals), Stack: slices.Clone(x.Stack)}
	switch {
	case d.below(8) == 0:
		at := x.At
		m.Maps = slices.DeleteFunc(m.Maps, func(x api.Map) bool { return x.At == at })
	case d.below(6) == 0:
		x.Stack = append(x.Stack, d.typ())
	case d.below(6) == 0 && len(x.Stack) > 0:
		x.Stack = x.Stack[1:]
	case d.below(3) == 0 && len(x.Stack) > 0:
		x.Stack[d.below(len(x.Stack))] = d.typ()
	case len(x.Locals) > 0:
		x.Locals[d.below(len(x.Locals))] = d.of([]string{"T", "Zz", "I", "N", "Object", "Aa", "Bb", "Cc", "Ff", "[I", "[Aa"})
	}
}

// holdAgainst tells what Method says of m in c, and holds it against the reckoning.
func holdAgainst(t *testing.T, c string, m api.Method) bool {
	t.Helper()
	l, at := put(c, m)
	got := verify.Method(mustNew(t, l), c, at)
	if want := bookOf(l).runs(c, m); got != want {
		t.Fatalf("in %s: Method = %v; want %v; of %s", c, got, want, told(m))
	}
	return got
}

// Methods that were made to run, and the same with one, two or three things turned.
func TestMadeMethods(t *testing.T) {
	d := &maker{pool: pool(), work: work{book: bookOf(world())}}
	right, wrong, turned := 0, 0, 0
	for range 4000 {
		c := d.of([]string{"Aa", "Bb", "Bb", "Cc", "Ee", "Err"})
		m := d.make(c)
		if !holdAgainst(t, c, m) {
			wrong++
		}
		for range 3 {
			d.turn()
			if class.May(api.Class{Name: "Aa", Super: "Object", Methods: []api.Method{d.m}}) {
				turned++
				if holdAgainst(t, c, d.m) {
					right++
				}
			}
		}
	}
	t.Logf("%d of 4000 may not run; of %d that were turned %d may", wrong, turned, right)
	if wrong > 400 || turned < 6000 || right < turned/8 || right > turned*7/8 {
		t.Errorf("%d of 4000 may not run; of %d that were turned %d may", wrong, turned, right)
	}
}

// All methods of up to three instructions of a small set, ahead of a return.
func TestAllSmallMethods(t *testing.T) {
	small := texts("const 1, null, load 0, load 1, load 3, store 3, store 0, pop, dup, swap, add, neg, new Cc, new Ff, getf Bb b, putf Aa i, gets Ee n, puts Aa n, calls Aa put, callv Aa give, callx Aa give, calli Gg j, newi, newa Aa, len, iload, aload, cast Aa, inst Ff, out")
	bodies := []string{""}
	for from := 0; len(bodies) < 1+30+900+27000; {
		to := len(bodies)
		for _, s := range bodies[from:to] {
			for _, x := range small {
				bodies = append(bodies, s+x+"; ")
			}
		}
		from = to
	}
	right := 0
	for chunk := range slices.Chunk(bodies, 5) {
		var list []api.Method
		for _, text := range chunk {
			list = append(list, body(text+"ret", "stack 2"))
		}
		l, first := put("Bb", list...)
		h, b := mustNew(t, l), bookOf(l)
		for i, m := range list {
			want := b.runs("Bb", m)
			if want {
				right++
			}
			if got := verify.Method(h, "Bb", first+i); got != want {
				t.Fatalf("Method = %v; want %v; of %s", got, want, told(m))
			}
		}
	}
	if right < 1000 {
		t.Errorf("only %d may run", right)
	}
}
