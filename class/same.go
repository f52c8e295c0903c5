package class

import (
	"slices"

	"daguerre/api"
)

// A list's length and elements are held against each other, so that nil is like empty.

func sameMethod(a, b api.Method) bool {
	return sameHead(a, b) && sameBody(a, b)
}

func sameHead(a, b api.Method) bool {
	return a.Name == b.Name && slices.Equal(a.Params, b.Params) && a.Ret == b.Ret && a.Static == b.Static && a.Abstract == b.Abstract
}

func sameBody(a, b api.Method) bool {
	return a.Locals == b.Locals && a.Stack == b.Stack &&
		slices.Equal(a.Code, b.Code) &&
		slices.EqualFunc(a.Maps, b.Maps, sameMap) &&
		slices.Equal(a.Traps, b.Traps)
}

func sameMap(a, b api.Map) bool {
	return a.At == b.At && slices.Equal(a.Locals, b.Locals) && slices.Equal(a.Stack, b.Stack)
}
