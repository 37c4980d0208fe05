package sweep

import (
	"slices"

	"lumberroom/api"
)

// mark is one step of marking.
func mark(h *api.Heap) {
	if !h.Busy {
		beginMarking(h)
		return
	}
	first := slices.IndexFunc(h.Things, func(thing api.Thing) bool { return thing.Colour == api.Grey })
	if first < 0 {
		endMarking(h)
		return
	}
	// Ahead of its kids, since it may be one of them.
	h.Things[first].Colour = api.Black
	for _, kid := range h.Things[first].Kids {
		shade(&h.Things[kid])
	}
}

func beginMarking(h *api.Heap) {
	h.Busy = true
	for i := range h.Things {
		h.Things[i].Colour = api.White
	}
	for _, root := range h.Roots {
		shade(&h.Things[root])
	}
}

func endMarking(h *api.Heap) {
	h.Busy = false
	for i := range h.Things {
		if h.Things[i].Colour == api.White {
			h.Things[i] = api.Thing{Free: true}
		}
		h.Things[i].Colour = api.White
	}
}

func shade(thing *api.Thing) {
	if thing.Colour == api.White {
		thing.Colour = api.Grey
	}
}
