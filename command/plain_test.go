package command_test

import (
	"encoding/binary"
	"math"
	"strings"

	"corbel/api"
)

// What chapters 1 and 9 say, told once more without the packages that are tried.

// span: the least and the most that a number, or a text's bytes, may be.
type span struct{ least, most int }

func (s span) has(n int) bool { return n >= s.least && n <= s.most }

var (
	nothing = span{0, 0}
	some    = span{1, math.MaxInt}
)

// row: what a kind's fields may be.
type row struct {
	session, seq, key, old, value, until, limit span
}

// rows: of the kinds that there are.
func rows() map[int]row {
	key, value, bound := span{1, 64}, span{0, 256}, span{0, 64}
	return map[int]row{
		1: {nothing, nothing, nothing, nothing, nothing, nothing, nothing},
		2: {some, nothing, nothing, nothing, nothing, nothing, nothing},
		3: {some, some, key, nothing, value, nothing, nothing},
		4: {some, some, key, nothing, nothing, nothing, nothing},
		5: {some, some, key, nothing, nothing, nothing, nothing},
		6: {some, some, key, value, value, nothing, nothing},
		7: {some, some, bound, nothing, nothing, bound, span{1, 64}},
	}
}

func plainlyGood(all map[int]row, c api.Command) bool {
	r, ok := all[c.Kind]
	return ok && r.session.has(c.Session) && r.seq.has(c.Seq) && r.key.has(len(c.Key)) && r.old.has(len(c.Old)) &&
		r.value.has(len(c.Value)) && r.until.has(len(c.Until)) && r.limit.has(c.Limit)
}

func plainlyReads(all map[int]row, c api.Command) bool {
	r := all[c.Kind]
	r.session, r.seq = nothing, nothing
	return (c.Kind == 4 || c.Kind == 7) && plainlyGood(map[int]row{c.Kind: r}, c)
}

// unsigned: a number in as few bytes as hold it.
func unsigned(u uint64) []byte {
	for k := range 8 {
		if u>>(7*(k+1)) == 0 {
			return inBytes(u, k)
		}
	}
	return inBytes(u, 8)
}

// inBytes: a number with k bytes behind its first one, though fewer might hold it.
func inBytes(u uint64, k int) []byte {
	whole := binary.BigEndian.AppendUint64(nil, u)
	if k == 8 {
		return append([]byte{0xff}, whole...)
	}
	b := whole[7-k:]
	b[0] |= []byte{0, 0x80, 0xc0, 0xe0, 0xf0, 0xf8, 0xfc, 0xfe}[k]
	return b
}

// signed: twice the number, and one more if it is below 0; the highest bit falls off.
func signed(n int) []byte {
	u := uint64(n) * 2
	if n < 0 {
		u++
	}
	return unsigned(u)
}

func text(s string) []byte { return append(unsigned(uint64(len(s))), s...) }

func join(parts ...[]byte) []byte {
	var b []byte
	for _, p := range parts {
		b = append(b, p...)
	}
	return b
}

func commandBytes(c api.Command) []byte {
	return join(signed(c.Kind), signed(c.Session), signed(c.Seq), signed(c.Limit), text(c.Key), text(c.Old), text(c.Value), text(c.Until))
}

func replyBytes(r api.Reply) []byte {
	found := byte('F')
	if r.Found {
		found = 'T'
	}
	b := join(signed(int(r.Err)), signed(r.Session), []byte{found}, text(r.Value), unsigned(uint64(len(r.Pairs))))
	for _, p := range r.Pairs {
		b = join(b, text(p.Key), text(p.Value))
	}
	return b
}

// of: a text of n bytes.
func of(n int) string { return strings.Repeat("x", n) }

// ends: numbers at and beside the edges, and the ends of int.
func ends(more ...int) []int {
	return append([]int{math.MinInt, math.MinInt + 1, -2, -1, 0, 1, 2, math.MaxInt - 1, math.MaxInt}, more...)
}

// good: one of each kind, as small as it may be, one with all that it may have, and the greatest there is.
func good() []api.Command {
	key, value, most := of(api.MaxKey), of(api.MaxValue), math.MaxInt
	return []api.Command{
		{Kind: api.CmdOpen},
		{Kind: api.CmdExpire, Session: 1},
		{Kind: api.CmdExpire, Session: most},
		{Kind: api.CmdPut, Session: 1, Seq: 1, Key: "k"},
		{Kind: api.CmdPut, Session: 1, Seq: 1, Key: "k", Value: "v"},
		{Kind: api.CmdPut, Session: most, Seq: most, Key: key, Value: value},
		{Kind: api.CmdPut, Session: 2, Seq: 3, Key: "\xff\x00", Value: "\x80\xc3"},
		{Kind: api.CmdGet, Session: 1, Seq: 1, Key: "k"},
		{Kind: api.CmdGet, Session: most, Seq: 1, Key: key},
		{Kind: api.CmdDelete, Session: 1, Seq: 1, Key: "k"},
		{Kind: api.CmdDelete, Session: 1, Seq: most, Key: key},
		{Kind: api.CmdCas, Session: 1, Seq: 1, Key: "k"},
		{Kind: api.CmdCas, Session: 64, Seq: 8192, Key: "k", Old: "o", Value: "v"},
		{Kind: api.CmdCas, Session: most, Seq: most, Key: key, Old: value, Value: value},
		{Kind: api.CmdScan, Session: 1, Seq: 1, Limit: 1},
		{Kind: api.CmdScan, Session: 1, Seq: 1, Key: "a", Until: "b", Limit: 2},
		{Kind: api.CmdScan, Session: 1, Seq: 1, Key: "b", Until: "a", Limit: 3},
		{Kind: api.CmdScan, Session: most, Seq: most, Key: key, Until: key, Limit: api.MaxScan},
	}
}

// fields: a command's, each set to a number or to a text of so many bytes.
func fields() map[string]func(c *api.Command, n int) {
	return map[string]func(c *api.Command, n int){
		"Session": func(c *api.Command, n int) { c.Session = n },
		"Seq":     func(c *api.Command, n int) { c.Seq = n },
		"Limit":   func(c *api.Command, n int) { c.Limit = n },
		"Key":     func(c *api.Command, n int) { c.Key = of(n) },
		"Old":     func(c *api.Command, n int) { c.Old = of(n) },
		"Value":   func(c *api.Command, n int) { c.Value = of(n) },
		"Until":   func(c *api.Command, n int) { c.Until = of(n) },
	}
}

// names: the fields that a kind names.
func names(kind int) []string {
	return strings.Fields([]string{"", "", "Session", "Session Seq Key Value", "Session Seq Key", "Session Seq Key", "Session Seq Key Old Value", "Session Seq Key Until Limit"}[kind])
}
