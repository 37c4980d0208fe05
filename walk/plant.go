package walk

import (
	"lumberroom/api"
	"lumberroom/chunk"
	"lumberroom/tree"
)

// planter makes blobs of items that Check has let pass.
type planter struct {
	way   api.Way
	left  []api.Item // those that no directory has taken yet
	told  heap
	blobs []api.Blob // what was told, in order
}

// directory tells the blobs of the directory with that path. What it has
// stands at the front of the items that are left: all below a directory
// follows it at once.
func (p *planter) directory(path string) (api.ID, api.Errno) {
	var nodes []api.Node
	for len(p.left) > 0 && parent(p.left[0].Path) == path {
		x := p.left[0]
		p.left = p.left[1:]
		n, err := p.node(x)
		if err != api.OK {
			return api.ID{}, err
		}
		nodes = append(nodes, n)
	}
	text, err := tree.Write(nodes)
	if err != api.OK {
		return api.ID{}, err
	}
	return p.tell(api.Blob{Kind: api.KTree, Bytes: text})
}

// node tells the blobs of an item.
func (p *planter) node(x api.Item) (api.Node, api.Errno) {
	n := api.Node{Name: lastName(x.Path), Kind: x.Kind, Mode: x.Mode, Time: x.Time}
	err := api.OK
	switch x.Kind {
	case api.NFile:
		n.Size = len(x.Bytes)
		n.Parts, err = p.file(x.Bytes)
	case api.NDir:
		var id api.ID
		id, err = p.directory(x.Path)
		n.Parts = []api.ID{id}
	case api.NLink:
		n.Link = x.Bytes
	}
	return n, err
}

// file tells the pieces of a file.
func (p *planter) file(s string) ([]api.ID, api.Errno) {
	var parts []api.ID
	for _, piece := range cut(p.way, s) {
		id, err := p.tell(api.Blob{Kind: api.KData, Bytes: piece})
		if err != api.OK {
			return nil, err
		}
		parts = append(parts, id)
	}
	return parts, api.OK
}

// tell tells a blob, if it was not told already.
func (p *planter) tell(b api.Blob) (api.ID, api.Errno) {
	id, fresh, err := p.told.put(b)
	if fresh {
		p.blobs = append(p.blobs, b)
	}
	return id, err
}

// cut is for a way and a file that were judged already, so that there is no
// error to be told.
func cut(way api.Way, s string) []string {
	if way.Fixed == 0 {
		l, _ := chunk.Cut(way.Cut, s)
		return l
	}
	l, _ := chunk.Fixed(way.Fixed, s)
	return l
}
