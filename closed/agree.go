package closed

import (
	"daguerre/api"
	"daguerre/hier"
	"daguerre/link"
)

// agrees: may each method of c be called where one above it, or one of an interface, is named?
func agrees(h *hier.Hier, c api.Class) bool {
	return agreesAbove(h, c) && agreesWithFaces(h, c)
}

// agreesAbove holds each method of c against the nearest one above that has its name; that one is held against the next.
// A static one may stand on neither side. (link.Method finds no initialisers: each class may have its own.)
func agreesAbove(h *hier.Hier, c api.Class) bool {
	for _, m := range c.Methods {
		_, above, ok := link.Method(h, c.Super, m.Name)
		if ok && (above.Static || m.Static || !link.Alike(above, m)) {
			return false
		}
	}
	return true
}

// agreesWithFaces holds each method of c's Faces against the one that c has for it.
// Where each is Alike to that one, any two of one name are Alike.
func agreesWithFaces(h *hier.Hier, c api.Class) bool {
	for _, name := range h.Faces(c.Name) {
		face, _ := h.Class(name)
		for _, m := range face.Methods {
			if own, ok := meant(h, c, m.Name); !ok || !link.Alike(own, m) {
				return false
			}
		}
	}
	return true
}

// meant answers the method that a call by that name means: of an object of the class c, or by way of the interface c.
func meant(h *hier.Hier, c api.Class, name string) (api.Method, bool) {
	if c.Interface {
		_, m, ok := link.Face(h, c.Name, name)
		return m, ok
	}
	// Where nobody is Chosen, who is empty, and no class has that name.
	who, _ := link.Chosen(h, c.Name, name)
	_, m, ok := link.Method(h, who, name)
	return m, ok
}
