package command

import (
	"slices"

	"corbel/api"
	"corbel/codec"
)

// ReplyBytes: a reply in bytes.
func ReplyBytes(r api.Reply) []byte {
	b := codec.Put(nil, codec.Zig(int(r.Err)))
	b = codec.Put(b, codec.Zig(r.Session))
	b = codec.PutBool(b, r.Found)
	b = codec.PutText(b, r.Value)
	b = codec.Put(b, uint64(len(r.Pairs)))
	for _, p := range r.Pairs {
		b = append(b, codec.PutText(nil, p.Key)...) // each text on its own: codec copies what it is to stand behind
		b = append(b, codec.PutText(nil, p.Value)...)
	}
	return b
}

// ReadReply: of bytes.
func ReadReply(b []byte) (api.Reply, api.Errno) {
	r := &codec.Reader{B: b}
	number, text := r.Int, r.Text
	var reply api.Reply
	reply.Err, reply.Session = api.Errno(number()), number()
	reply.Found = r.Bool()
	reply.Value = text()
	reply.Pairs = readPairs(r)
	if !r.End() {
		return api.Reply{}, api.ErrCorrupt
	}
	return reply, api.OK
}

// Same: are two replies alike?
func Same(a, b api.Reply) bool {
	return a.Err == b.Err && a.Found == b.Found && a.Value == b.Value && a.Session == b.Session && slices.Equal(a.Pairs, b.Pairs)
}

// readPairs: a count, and so many pairs. A pair takes two bytes or more, so that a greater count is wrong ahead of any work.
func readPairs(r *codec.Reader) []api.Pair {
	text := r.Text
	var pairs []api.Pair
	for range r.Count(len(r.B) / 2) {
		key, value := text(), text()
		if r.Wrong {
			return nil
		}
		pairs = append(pairs, api.Pair{Key: key, Value: value})
	}
	return pairs
}
