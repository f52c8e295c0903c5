package closed

import (
	"daguerre/api"
	"daguerre/hier"
	"daguerre/link"
	"daguerre/types"
)

// isWhole: are all types, fields and methods there that c names?
func isWhole(h *hier.Hier, c api.Class) bool {
	for _, f := range c.Fields {
		if !types.There(h, f.Type) {
			return false
		}
	}
	for _, m := range c.Methods {
		if !hasTypes(h, m) || !hasTraps(h, m) || !hasCode(h, m) {
			return false
		}
	}
	return true
}

// hasTypes asks nothing of the Maps: they say what the verifier is to hold, and nothing else reads them.
func hasTypes(h *hier.Hier, m api.Method) bool {
	for _, t := range m.Params {
		if !types.There(h, t) {
			return false
		}
	}
	return m.Ret == nothing || types.There(h, m.Ret)
}

func hasTraps(h *hier.Hier, m api.Method) bool {
	for _, trap := range m.Traps {
		if trap.C != "" && !types.There(h, trap.C) {
			return false
		}
	}
	return true
}

func hasCode(h *hier.Hier, m api.Method) bool {
	for _, x := range m.Code {
		if !hasNamed(h, x) {
			return false
		}
	}
	return true
}

// hasNamed: is what x names there? A C or an M of an instruction that names none is empty (op.May).
func hasNamed(h *hier.Hier, x api.Ins) bool {
	switch {
	case x.C == "":
		return true
	case x.M == "":
		return types.There(h, x.C)
	case x.Op <= api.OPuts:
		_, _, ok := link.Field(h, x.C, x.M)
		return ok
	case x.Op == api.OCalli:
		_, _, ok := link.Face(h, x.C, x.M)
		return ok
	}
	// link.Method would find an interface's own methods, too.
	of, _ := h.Class(x.C)
	_, _, ok := link.Method(h, x.C, x.M)
	return ok && !of.Interface
}
