package closed_test

import (
	"fmt"
	"strings"
	"testing"

	"daguerre/api"
	"daguerre/closed"
)

// checkSet holds Linked against the reckoning, and says which it was.
func checkSet(t *testing.T, l []api.Class) api.Errno {
	t.Helper()
	got, want := closed.Linked(mustNew(t, l)), bookOf(l).linked()
	if got != want {
		t.Fatalf("Linked = %v; the reckoning says %v; of %v", got, want, l)
	}
	return got
}

// All sets of three classes, one of the other, and two interfaces, where each has one of these methods or none.
func TestAllSmallSets(t *testing.T) {
	count := map[api.Errno]int{}
	own := []string{"", "f", "f I", "f > I", "static f"}
	abstract := []string{"", "f", "f I"}
	impl := []string{"", "Ff", "Gg"}
	for n := range 5 * 5 * 5 * 3 * 3 * 2 * 3 * 3 {
		next := func(list []string) string {
			s := list[n%len(list)]
			n /= len(list)
			return s
		}
		l := []api.Class{
			class("C1 C0: " + next(own)),
			class("face Gg " + next([]string{"", "Ff"}) + ": " + next(abstract)),
			class("C0 Object " + next(impl) + ": " + next(own)),
			class("face Ff: " + next(abstract)),
			class("C2 C1 " + next(impl) + ": " + next(own)),
		}
		count[checkSet(t, l)]++
	}
	if count[api.OK] < 1000 || count[api.ErrForm] < 1000 {
		t.Errorf("too few of one kind: %v", count)
	}
}

// All small sets of interfaces: each of the later ones has some of those ahead of it, and one of these methods or none.
func TestAllSmallSetsOfInterfaces(t *testing.T) {
	count := map[api.Errno]int{}
	abstract := []string{"", "f", "f I", "f I | g"}
	for n := range 4 * 4 * 4 * 4 * 2 * 4 * 8 {
		next := func(many int) int {
			k := n % many
			n /= many
			return k
		}
		var l []api.Class
		for i := range 4 {
			text := "face F" + fmt.Sprint(i)
			for k, bits := 0, next(1<<i); k < i; k++ {
				if bits>>k&1 == 1 {
					text += " F" + fmt.Sprint(k)
				}
			}
			l = append(l, class(text+": "+abstract[next(4)]))
		}
		count[checkSet(t, l)]++
	}
	if count[api.OK] < 1000 || count[api.ErrForm] < 1000 {
		t.Errorf("too few of one kind: %v", count)
	}
}

// A maker makes sets in which names mostly mean what is there.
type maker struct {
	dice
	odd            int // one in so many names is no class, one in so many methods is unlike the others of its name
	classes, faces []string
}

func (d *maker) strays() bool { return d.below(d.odd) == 0 }

func (d *maker) class() string {
	if d.strays() {
		return d.of([]string{"Zz", "Objects", "C99"})
	}
	return d.of(append(append([]string{"Object", "Thrown"}, d.classes...), d.faces...))
}

func (d *maker) typ() string {
	if d.below(3) == 0 {
		return d.of([]string{"I", "[I", "[[I"})
	}
	return d.of([]string{"", "", "[", "[["}) + d.class()
}

func (d *maker) reference() string {
	if t := d.typ(); t != "I" {
		return t
	}
	return "Object"
}

// naming gives an instruction that names something.
func (d *maker) naming() string {
	switch d.below(7) {
	case 0:
		return "new " + d.class()
	case 1:
		return d.of([]string{"newa ", "cast ", "inst "}) + d.reference()
	case 2:
		return d.of([]string{"getf ", "putf ", "gets ", "puts "}) + d.class() + d.of([]string{" a", " b", " c"})
	case 3:
		return "calli " + d.of(append([]string{d.class()}, d.faces...)) + d.of([]string{" f", " g"})
	case 4, 5:
		return d.of([]string{"calls ", "callv ", "callx "}) + d.class() + d.of([]string{" f", " g", " h"})
	}
	return d.of([]string{"const", "null", "add", "load 0"})
}

// head gives a method's name and types: as they mostly are, or others.
func (d *maker) head(name string) string {
	if d.strays() {
		return name + " " + d.typ() + " > " + d.typ()
	}
	switch name {
	case "f":
		return "f I > I"
	case "g":
		return "g > " + d.of(d.classes[:1])
	}
	return name
}

func (d *maker) make(texts, names []string, n int) string {
	var list []string
	for i, text := range texts {
		if d.below(10) < n {
			list = append(list, strings.ReplaceAll(text, "?", names[i]))
		}
	}
	return strings.Join(list, " | ")
}

func (d *maker) ofClass() string {
	f, g, h := d.head("f"), d.head("g"), d.head("h")
	if d.strays() {
		f = "static " + f
	}
	body := " = "
	for range d.below(3) {
		body += d.naming() + "; "
	}
	return d.make([]string{"field a ?", "field b ?", "static field c ?", "?", "?", "static ?", "?"},
		[]string{d.typ(), d.typ(), d.typ(), f + body + "null; throw", g, h + fmt.Sprint(len(d.classes)), "static $init" + body + "ret"}, 7)
}

func (d *maker) set() []api.Class {
	d.classes, d.faces = []string{"C0"}, nil
	l := []api.Class{class("C0 Object: field a I | field b C0 | static field c [C0 | f I > I | g > C0 | static h")}
	for i := range d.below(7) {
		name := fmt.Sprint("C", i+1)
		if d.below(3) == 0 {
			impl := strings.Join(d.some(), " ")
			d.faces = append(d.faces, name)
			l = append(l, class("face "+name+" "+impl+": "+d.make([]string{"?", "?"}, []string{d.head("f"), d.head("g")}, 6)))
			continue
		}
		text := name + " " + d.of(append([]string{"Object", "MathErr"}, d.classes...)) + " " + strings.Join(d.some(), " ")
		d.classes = append(d.classes, name)
		l = append(l, class(text+": "+d.ofClass()))
	}
	for i := range l {
		k := i + d.below(len(l)-i)
		l[i], l[k] = l[k], l[i]
	}
	return l
}

// some gives some of the interfaces.
func (d *maker) some() []string {
	var list []string
	for _, f := range d.faces {
		if len(list) < api.MaxImpl && d.below(3) == 0 {
			list = append(list, f)
		}
	}
	return list
}

func TestMadeSets(t *testing.T) {
	for _, odd := range []int{5, 15, 60, 400} {
		d := maker{dice: dice(odd), odd: odd}
		count := map[api.Errno]int{}
		for range 4000 {
			count[checkSet(t, d.set())]++
		}
		t.Log(odd, count)
		if count[api.OK] < 100 || count[api.ErrMissing] < 100 || count[api.ErrForm] < 100 {
			t.Errorf("too few of one kind: %v", count)
		}
	}
}

// What Check says of made sets, of each method as the entry.
func TestMadeSetsAndEntries(t *testing.T) {
	d := maker{dice: 7, odd: 100}
	count := map[api.Errno]int{}
	for range 300 {
		l := d.set()
		for _, c := range append(d.classes, "Zz") {
			for _, m := range []string{"f", "h", "h1", "h2", "h3", "h4", "$init", "z"} {
				count[checkTwice(t, "made", l, api.Entry{C: c, M: m})]++
			}
		}
	}
	t.Log(count)
	if count[api.OK] < 100 || count[api.ErrMissing] < 100 || count[api.ErrForm] < 100 || count[api.ErrVerify] < 100 {
		t.Errorf("too few of one kind: %v", count)
	}
}
