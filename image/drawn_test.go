package image_test

import (
	"bytes"
	"maps"
	"math/rand"
	"slices"
	"testing"

	"corbel/api"
	"corbel/image"
	"corbel/swiss"
)

// drawn: a text of a few bytes, among them those at the ends.
func drawn(dice *rand.Rand, most int) string {
	some := []byte{0, 1, 'a', 'b', 127, 128, 255}
	b := make([]byte, dice.Intn(most+1))
	for i := range b {
		b[i] = some[dice.Intn(len(some))]
	}
	return string(b)
}

// byKeys: a map of Go's, told plainly.
func byKeys(last map[string]string) []api.Pair {
	var all []api.Pair
	for key, value := range maps.All(last) {
		all = append(all, api.Pair{Key: key, Value: value})
	}
	slices.SortFunc(all, func(a, b api.Pair) int { return bytes.Compare([]byte(a.Key), []byte(b.Key)) })
	return all
}

// some: the chapter's words on Range, pair by pair.
func some(all []api.Pair, from, until string, limit int) []api.Pair {
	var out []api.Pair
	for _, p := range all {
		beyond := bytes.Compare([]byte(p.Key), []byte(from)) >= 0
		ahead := until == "" || bytes.Compare([]byte(p.Key), []byte(until)) < 0
		if beyond && ahead && len(out) < limit {
			out = append(out, p)
		}
	}
	return out
}

// TestWhateverWasDone: drawn puts and deletes on two maps with unlike seeds, one of which is told by its image now and then; held against a map of Go's.
func TestWhateverWasDone(t *testing.T) {
	for n, seed := range seeds {
		for draw := range 40 {
			dice := rand.New(rand.NewSource(int64(1000*n + draw)))
			m, other := swiss.New[string](seed, 0), swiss.New[string](seeds[(n+1)%len(seeds)], dice.Intn(200))
			last := map[string]string{}
			most := 1 + draw%4 // bytes of a key: few keys, or many
			for step := range 300 {
				key, value := drawn(dice, most), drawn(dice, 3)
				if dice.Intn(3) == 0 {
					m.Delete(key)
					other.Delete(key)
					delete(last, key)
				} else {
					put(t, m, key, value)
					put(t, other, key, value)
					last[key] = value
				}
				if step%30 != 29 {
					continue
				}
				want := byKeys(last)
				are(t, "Pairs", image.Pairs(m), want)
				from, until, limit := drawn(dice, 2), drawn(dice, 2), dice.Intn(2*len(want)+2)-1
				are(t, "Range", image.Range(m, from, until, limit), some(want, from, until, limit))
				b := image.Export(other)
				if !slices.Equal(b, plainly(want)) || !slices.Equal(image.Export(m), b) || !image.Same(m, other) {
					t.Fatalf("step %d: Export %d, want %d", step, b, plainly(want))
				}
				imports(t, b, seed, want)
				m, _ = image.Import(b, seed) // and on with what was taken
			}
		}
	}
}
