package walk

import (
	"strings"

	"lumberroom/api"
	"lumberroom/tree"
)

// reaper reads items from blobs. A directory may have itself below it: it is
// the bound on how deep a path may be that ends this.
type reaper struct {
	from  heap
	items []api.Item // what was told
}

// directory tells the items below the directory of that ID and path.
func (r *reaper) directory(id api.ID, path string) api.Errno {
	text, err := r.from.get(id, api.KTree)
	if err != api.OK {
		return err
	}
	nodes, err := tree.Read(text)
	if err != api.OK {
		return err
	}
	for _, n := range nodes {
		if err := r.node(n, path+slash+n.Name); err != api.OK {
			return err
		}
	}
	return api.OK
}

// node tells the item of a node, and those below it.
func (r *reaper) node(n api.Node, path string) api.Errno {
	if strings.Count(path, slash) > api.MaxDeep {
		return api.ErrDeep
	}
	if len(r.items) == api.MaxItems {
		return api.ErrLarge
	}
	x := api.Item{Path: path, Kind: n.Kind, Mode: n.Mode, Time: n.Time}
	err := api.OK
	switch n.Kind {
	case api.NFile:
		x.Bytes, err = r.file(n)
	case api.NLink:
		x.Bytes = n.Link
	}
	if err != api.OK {
		return err
	}
	r.items = append(r.items, x)
	if n.Kind == api.NDir {
		return r.directory(n.Parts[0], path)
	}
	return api.OK
}

// file is what a file has in it.
func (r *reaper) file(n api.Node) (string, api.Errno) {
	var out []byte
	for _, id := range n.Parts {
		piece, err := r.from.get(id, api.KData)
		if err != api.OK {
			return "", err
		}
		out = append(out, piece...)
		if len(out) > n.Size {
			return "", api.ErrForm
		}
	}
	if len(out) < n.Size {
		return "", api.ErrForm
	}
	return string(out), api.OK
}
