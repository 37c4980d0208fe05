package sweep

import (
	"slices"

	"lumberroom/api"
)

// work is a heap upon which an act is done, and what was live ahead of it.
type work struct {
	api.Heap
	live []bool
}

func (w *work) do(a api.Act) api.Errno {
	switch a.Kind {
	case api.AMark:
		mark(&w.Heap)
		return api.OK
	case api.AFresh:
		return w.fresh()
	case api.ALink:
		return w.link(a.From, a.To)
	case api.ACut:
		return w.cut(a.From, a.To)
	case api.AHold:
		return w.hold(a.To)
	case api.ADrop:
		return takeAway(&w.Roots, a.To)
	}
	return api.ErrKind
}

func (w *work) isLive(n int) bool { return n >= 0 && n < len(w.live) && w.live[n] }

func (w *work) fresh() api.Errno {
	at := slices.IndexFunc(w.Things, func(thing api.Thing) bool { return thing.Free })
	if at < 0 {
		if len(w.Things) == api.MaxHeld {
			return api.ErrFull
		}
		at = len(w.Things)
		w.Things = append(w.Things, api.Thing{})
	}
	w.Things[at] = api.Thing{Colour: api.White}
	return w.put(&w.Roots, at, maxRoots)
}

func (w *work) link(from, to int) api.Errno {
	if !w.isLive(from) || !w.isLive(to) {
		return api.ErrNone
	}
	return w.put(&w.Things[from].Kids, to, api.MaxKids)
}

func (w *work) cut(from, kid int) api.Errno {
	if !w.isLive(from) {
		return api.ErrNone
	}
	return takeAway(&w.Things[from].Kids, kid)
}

func (w *work) hold(thing int) api.Errno {
	if !w.isLive(thing) {
		return api.ErrNone
	}
	return w.put(&w.Roots, thing, maxRoots)
}

// put puts a thing behind kids or roots, of which there may be so many.
func (w *work) put(list *[]int, thing, most int) api.Errno {
	if len(*list) >= most {
		return api.ErrLarge
	}
	*list = append(*list, thing)
	// Whoever has it now may have been looked through already, and whoever had
	// it may lose it: so it is marked by itself.
	if w.Busy {
		shade(&w.Things[thing])
	}
	return api.OK
}

func takeAway(list *[]int, at int) api.Errno {
	if at < 0 || at >= len(*list) {
		return api.ErrNone
	}
	*list = slices.Delete(*list, at, at+1)
	return api.OK
}
