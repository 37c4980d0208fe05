package walk

import (
	"lumberroom/api"
	"lumberroom/pack"
)

// heap has blobs by their IDs.
type heap map[api.ID]api.Blob

// put keeps b; fresh: it was not there.
func (h heap) put(b api.Blob) (id api.ID, fresh bool, err api.Errno) {
	id, err = pack.ID(b)
	if err != api.OK {
		return api.ID{}, false, err
	}
	other, there := h[id]
	if there && other != b {
		return api.ID{}, false, api.ErrClash
	}
	h[id] = b
	return id, !there, api.OK
}

// get is the Bytes of the blob of that ID, which is to have that Kind.
func (h heap) get(id api.ID, kind int) (string, api.Errno) {
	b, there := h[id]
	if !there {
		return "", api.ErrNone
	}
	if b.Kind != kind {
		return "", api.ErrKind
	}
	return b.Bytes, api.OK
}

// heapOf has all blobs of a list, each of which may be there more than once.
func heapOf(l []api.Blob) (heap, api.Errno) {
	if len(l) > api.MaxHeap {
		return nil, api.ErrLarge
	}
	h := heap{}
	for _, b := range l {
		if _, _, err := h.put(b); err != api.OK {
			return nil, err
		}
	}
	return h, api.OK
}
