package delta

import (
	"strings"

	"lumberroom/api"
)

// ownItem is x with texts in memory of its own: what is answered shares none
// with what was handed in.
func ownItem(x api.Item) api.Item {
	x.Path, x.Bytes = strings.Clone(x.Path), strings.Clone(x.Bytes)
	return x
}

// ownItems does so with all items of a list that was made here.
func ownItems(w []api.Item) {
	for i, x := range w {
		w[i] = ownItem(x)
	}
}

// ownEdits is the same for edits.
func ownEdits(l []api.Edit) {
	for i, x := range l {
		l[i].Path, l[i].Item = strings.Clone(x.Path), ownItem(x.Item)
	}
}
