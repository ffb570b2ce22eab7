package snap

import (
	"bytes"
	"iter"
	"slices"

	"corbel/api"
	"corbel/codec"
	"corbel/entry"
)

// chunkSize: how many of a snapshot's bytes stand in each chunk but the first, which is the head, and the last.
const chunkSize = 4096

// Chunks: a snapshot in parts.
func Chunks(s api.Snapshot) [][]byte {
	if !entry.GoodSnap(s) {
		return nil
	}
	return slices.Collect(chunks(s))
}

// Join: the snapshot of all parts. What the frames hold tells which snapshot it could be; that the frames are just its chunks, the head too, is seen by telling these once more.
func Join(b []byte) (api.Snapshot, api.Errno) {
	_, head, _ := codec.Unframe(b) // of no bytes, if there is none, and then there is no content either
	var all []byte
	for content := range contents(b[head:]) {
		all = append(all, content...)
	}
	s, err := entry.ReadSnap(all)
	if err != api.OK || !areChunks(b, s) {
		return api.Snapshot{}, api.ErrCorrupt
	}
	return s, api.OK
}

// chunks: those of a good snapshot, one behind the other.
func chunks(s api.Snapshot) iter.Seq[[]byte] {
	return func(yield func([]byte) bool) {
		b := entry.SnapBytes(s)
		if !yield(codec.Frame(head(s, b))) {
			return
		}
		for piece := range slices.Chunk(b, chunkSize) {
			if !yield(codec.Frame(piece)) {
				return
			}
		}
	}
}

// head: what stands in the first chunk of a snapshot that has these bytes.
func head(s api.Snapshot, b []byte) []byte {
	h := codec.Put(nil, codec.Zig(s.Index))
	h = codec.Put(h, codec.Zig(s.Term))
	h = codec.Put(h, uint64(len(b)))
	return codec.Put(h, uint64(codec.Sum(b)))
}

// contents: those of the frames that bytes begin with.
func contents(b []byte) iter.Seq[[]byte] {
	return func(yield func([]byte) bool) {
		for rest := b; ; {
			content, size, err := codec.Unframe(rest)
			if err != api.OK || !yield(content) {
				return
			}
			rest = rest[size:]
		}
	}
}

// areChunks: are bytes the chunks of a good snapshot, one behind the other, and nothing else?
func areChunks(b []byte, s api.Snapshot) bool {
	for chunk := range chunks(s) {
		rest, begins := bytes.CutPrefix(b, chunk)
		if !begins {
			return false
		}
		b = rest
	}
	return len(b) == 0
}
