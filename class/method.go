package class

import (
	"daguerre/api"
	"daguerre/kind"
	"daguerre/op"
)

const (
	nothing  = "V"
	number   = "I"
	null     = "N"
	anything = "T" // a local that nobody may read
	maxMaps  = 100
)

func mayMethod(m api.Method) bool {
	if !kind.Name(m.Name) || !mayParams(m.Params) || !kind.Ret(m.Ret) {
		return false
	}
	if m.Abstract {
		return !m.Static && m.Name != initialiser && bodiless(m)
	}
	if m.Name == initialiser && !begins(m) {
		return false
	}
	return mayRoom(m) && mayCode(m.Code) && mayTraps(m.Traps, len(m.Code)) && mayMaps(m)
}

func mayParams(list []string) bool {
	if len(list) > api.MaxParams {
		return false
	}
	for _, t := range list {
		if !kind.May(t) {
			return false
		}
	}
	return true
}

func bodiless(m api.Method) bool {
	return m.Locals == 0 && m.Stack == 0 && len(m.Code) == 0 && len(m.Maps) == 0 && len(m.Traps) == 0
}

// begins: can a machine run m by itself, with nothing to hand in and nothing to take back?
func begins(m api.Method) bool {
	return m.Static && len(m.Params) == 0 && m.Ret == nothing
}

func mayRoom(m api.Method) bool {
	least := len(m.Params)
	if !m.Static {
		least++ // the object itself
	}
	return within(m.Locals, least, api.MaxLocals) && within(m.Stack, 0, api.MaxStack)
}

func mayCode(code []api.Ins) bool {
	if !within(len(code), 1, api.MaxCode) {
		return false
	}
	for _, x := range code {
		if !op.May(x) || op.Jumps(x.Op) && x.A >= len(code) {
			return false
		}
	}
	return op.Ends(code[len(code)-1].Op)
}

func mayTraps(list []api.Trap, size int) bool {
	if len(list) > api.MaxTraps {
		return false
	}
	for _, t := range list {
		if !mayTrap(t, size) {
			return false
		}
	}
	return true
}

func mayTrap(t api.Trap, size int) bool {
	return 0 <= t.From && t.From < t.To && t.To <= size && within(t.At, 0, size-1) && (t.C == "" || kind.Class(t.C))
}

func mayMaps(m api.Method) bool {
	if len(m.Maps) > maxMaps {
		return false
	}
	least := 0
	for _, x := range m.Maps {
		if !within(x.At, least, len(m.Code)-1) || !mayStand(x, m) {
			return false
		}
		least = x.At + 1 // they rise
	}
	return true
}

// mayStand: may what x says stand in m's locals and on its stack?
func mayStand(x api.Map, m api.Method) bool {
	if len(x.Locals) != m.Locals || len(x.Stack) > m.Stack {
		return false
	}
	for _, t := range x.Locals {
		if t != anything && !mayValue(t) {
			return false
		}
	}
	for _, t := range x.Stack {
		if !mayValue(t) {
			return false
		}
	}
	return true
}

func mayValue(t string) bool {
	return t == number || t == null || kind.Ref(t)
}

func within(n, least, most int) bool {
	return least <= n && n <= most
}
