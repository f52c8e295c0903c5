package hier

import (
	"slices"

	"daguerre/api"
)

// A class is taken in and handed out as a copy of all its lists, so that nobody else can write into what a Hier keeps.

func copyOf(c api.Class) api.Class {
	c.Impl = slices.Clone(c.Impl)
	c.Fields = slices.Clone(c.Fields)
	c.Methods = slices.Clone(c.Methods)
	for i := range c.Methods {
		copyMethod(&c.Methods[i])
	}
	return c
}

func copyMethod(m *api.Method) {
	m.Params = slices.Clone(m.Params)
	m.Code = slices.Clone(m.Code)
	m.Maps = slices.Clone(m.Maps)
	for i := range m.Maps {
		m.Maps[i].Locals = slices.Clone(m.Maps[i].Locals)
		m.Maps[i].Stack = slices.Clone(m.Maps[i].Stack)
	}
	m.Traps = slices.Clone(m.Traps)
}
