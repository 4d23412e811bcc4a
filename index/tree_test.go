package index

import (
	"math/rand"
	"testing"

	"tidemark/api"
)

// wantTree holds a tree to its order, its counts and its balance, and tells how deep it is.
func wantTree(t *testing.T, n *node[int]) int {
	t.Helper()
	if n == nil {
		return 0
	}
	if n.left != nil && n.left.key >= n.key || n.right != nil && n.right.key <= n.key {
		t.Errorf("the keys at %q are out of order", n.key)
	}
	if n.size != n.left.count()+1+n.right.count() {
		t.Errorf("at %q are %d keys, counted as %d", n.key, n.left.count()+1+n.right.count(), n.size)
	}
	if a, b := n.left.weight(), n.right.weight(); a > 3*b || b > 3*a {
		t.Errorf("at %q the sides weigh %d and %d", n.key, a, b)
	}
	return 1 + max(wantTree(t, n.left), wantTree(t, n.right))
}

func key3(n int) string { return string([]byte{byte(n >> 16), byte(n >> 8), byte(n)}) }

// Keys that come or go in any order, rising and falling too, leave the tree balanced: so each call takes few steps.
func TestTheTreeStaysBalanced(t *testing.T) {
	const many = 200
	r := rand.New(rand.NewSource(8))
	rising, falling := make([]int, many), make([]int, many)
	for i := range many {
		rising[i], falling[many-1-i] = i, i
	}
	orders := [][]int{rising, falling, r.Perm(many), r.Perm(many), r.Perm(many)}
	for _, coming := range orders {
		for _, going := range orders {
			x := New[int]()
			for _, k := range coming {
				x.Set(key3(k), k)
				wantTree(t, x.root)
			}
			for _, k := range going {
				x.Delete(key3(k))
				wantTree(t, x.root)
			}
			if t.Failed() {
				t.FailNow()
			}
		}
	}
}

// A hundred thousand keys are no burden, also where each that comes is followed by a look at a small span, both ways.
func TestManyKeys(t *testing.T) {
	const many = 100000
	x := New[int]()
	for i := range many {
		if !x.Set(key3(i), i) {
			t.Fatalf("key %d is not new", i)
		}
		k := key3(i / 2)
		point := api.Span{Lo: k, Hi: k + "\x00"}
		wantEntries(t, "Range", x.Range(point), entry{k, i / 2})
		wantEntries(t, "Back", x.Back(point), entry{k, i / 2})
	}
	if deep := wantTree(t, x.root); deep > 41 { // the logarithm of many to the base 4/3, rounded up
		t.Errorf("the tree is %d nodes deep", deep)
	}
}
