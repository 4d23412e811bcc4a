package asof

import (
	"math/rand"
	"slices"
	"strconv"
	"strings"
	"testing"

	"tidemark/api"
)

func at(wall uint64, logical, node uint32) api.Stamp {
	return api.Stamp{Wall: wall, Logical: logical, Node: node}
}

func put(key, value string, s api.Stamp) api.Version {
	return api.Version{Key: key, At: s, Value: value}
}

func deleted(key string, s api.Stamp) api.Version {
	return api.Version{Key: key, At: s, Delete: true}
}

// told is pairs as one text.
func told(pairs []api.Pair) string {
	var words []string
	for _, p := range pairs {
		words = append(words, p.Key+"="+p.Value)
	}
	return strings.Join(words, " ")
}

func TestPairs(t *testing.T) {
	list := []api.Version{
		put("a", "1", at(5, 0, 0)), put("a", "2", at(5, 0, 1)), put("a", "3", at(7, 0, 0)),
		put("b", "", at(6, 0, 0)),
		put("c", "1", at(5, 0, 0)), deleted("c", at(6, 0, 0)), put("c", "2", at(8, 0, 0)),
		deleted("d", at(5, 0, 0)),
		put("e", "1", at(8, 0, 0)),
	}
	kept := slices.Clone(list)
	for s, want := range map[api.Stamp]string{
		at(0, 0, 0):           "",
		at(4, 9, 9):           "",
		at(5, 0, 0):           "a=1 c=1",
		at(5, 0, 1):           "a=2 c=1",
		at(5, 9, 0):           "a=2 c=1",
		at(6, 0, 0):           "a=2 b=",
		at(7, 0, 0):           "a=3 b=",
		at(8, 0, 0):           "a=3 b= c=2 e=1",
		at(api.TopWall, 0, 0): "a=3 b= c=2 e=1",
	} {
		if got := told(Pairs(list, s)); got != want {
			t.Errorf("at %v: %q, want %q", s, got, want)
		}
	}
	if !slices.Equal(list, kept) {
		t.Errorf("what was handed in is changed: %v", list)
	}
	if got := Pairs(nil, at(5, 0, 0)); len(got) != 0 {
		t.Errorf("of no version: %v", got)
	}
}

// The pairs are what a plain map holds on which the versions up to the stamp were laid, by stamp.
func TestPairsBesideAMap(t *testing.T) {
	for seed := range int64(500) {
		d := rand.New(rand.NewSource(seed))
		var list []api.Version
		for key := range 1 + d.Intn(9) {
			for wall := range 1 + d.Intn(6) {
				v := put(strconv.Itoa(key), strconv.Itoa(d.Intn(9)), at(uint64(wall), 0, 0))
				if d.Intn(3) == 0 {
					v.Delete, v.Value = true, ""
				}
				if d.Intn(3) > 0 {
					list = append(list, v)
				}
			}
		}
		s := at(uint64(d.Intn(7)), 0, 0)
		m := map[string]string{}
		for wall := range s.Wall + 1 {
			for _, v := range list {
				if v.At.Wall != wall {
					continue
				}
				if delete(m, v.Key); !v.Delete {
					m[v.Key] = v.Value
				}
			}
		}
		var want []string
		for key, value := range m {
			want = append(want, key+"="+value)
		}
		slices.Sort(want)
		if got := told(Pairs(list, s)); got != strings.Join(want, " ") {
			t.Fatalf("seed %d: at %v: %q, want %q, of %v", seed, s, got, want, list)
		}
	}
}

// More pairs than one answer of a read may have.
func TestPairsHaveNoLimit(t *testing.T) {
	var list []api.Version
	for i := range 3 * api.MaxPairs {
		list = append(list, put(strconv.Itoa(10000+i), "x", at(1, 0, 0)))
	}
	if got := Pairs(list, at(1, 0, 0)); len(got) != len(list) {
		t.Errorf("%d pairs, want %d", len(got), len(list))
	}
}
