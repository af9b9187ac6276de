package schema_test

import (
	"slices"
	"testing"

	"fascicle/api"
	"fascicle/schema"
)

// place is what is told of a table.
type place struct {
	kids        []int
	depth, root int
}

// stands fails the test unless each table is told as it stands there.
func stands(t *testing.T, s api.Schema, want ...place) {
	t.Helper()
	for i, p := range want {
		if l := schema.Kids(s, i); !slices.Equal(l, p.kids) {
			t.Errorf("Kids of %d: %v, not %v", i, l, p.kids)
		}
		if n := schema.Depth(s, i); n != p.depth {
			t.Errorf("Depth of %d: %d, not %d", i, n, p.depth)
		}
		if n := schema.Root(s, i); n != p.root {
			t.Errorf("Root of %d: %d, not %d", i, n, p.root)
		}
	}
	for _, i := range outside(len(want)) {
		if l := schema.Kids(s, i); len(l) != 0 {
			t.Errorf("Kids of %d: %v", i, l)
		}
		if n := schema.Depth(s, i); n != 0 {
			t.Errorf("Depth of %d: %d", i, n)
		}
		if n := schema.Root(s, i); n != -1 {
			t.Errorf("Root of %d: %d", i, n)
		}
	}
}

// P13.2: of roots alone.
func TestRoots(t *testing.T) {
	stands(t, forest(-1), place{nil, 1, 0})
	stands(t, forest(-1, -1, -1), place{nil, 1, 0}, place{nil, 1, 1}, place{nil, 1, 2})
	var want []place
	for i := range 12 {
		want = append(want, place{nil, 1, i})
	}
	stands(t, forest(repeated(-1, 12)...), want...)
}

// P13.2: of chains.
func TestChains(t *testing.T) {
	for n := 1; n <= api.MaxDepth; n++ {
		var want []place
		for i := range n {
			p := place{[]int{i + 1}, i + 1, 0}
			if i == n-1 {
				p.kids = nil
			}
			want = append(want, p)
		}
		stands(t, chain(n), want...)
	}
}

// P13.2: of a root with many children.
func TestManyKids(t *testing.T) {
	want := []place{{[]int{1, 2, 3, 4, 5, 6, 7, 8, 9, 10, 11}, 1, 0}}
	for range 11 {
		want = append(want, place{nil, 2, 0})
	}
	stands(t, forest(append([]int{-1}, repeated(0, 11)...)...), want...)
}

// P13.2: of forests of several roots, whose tables stand in any mixture.
func TestForests(t *testing.T) {
	stands(t, example(), place{[]int{1}, 1, 0}, place{nil, 2, 0})
	stands(t, forest(-1, -1, 0, 1, 0, 1, 2, 3, -1, 8, 4, 10),
		place{[]int{2, 4}, 1, 0}, place{[]int{3, 5}, 1, 1}, place{[]int{6}, 2, 0}, place{[]int{7}, 2, 1},
		place{[]int{10}, 2, 0}, place{nil, 2, 1}, place{nil, 3, 0}, place{nil, 3, 1},
		place{[]int{9}, 1, 8}, place{nil, 2, 8}, place{[]int{11}, 3, 0}, place{nil, 4, 0})
	stands(t, forest(-1, 0, 1, 2, 3, 4, 5, 6, -1, 8, 8, 10),
		place{[]int{1}, 1, 0}, place{[]int{2}, 2, 0}, place{[]int{3}, 3, 0}, place{[]int{4}, 4, 0},
		place{[]int{5}, 5, 0}, place{[]int{6}, 6, 0}, place{[]int{7}, 7, 0}, place{nil, 8, 0},
		place{[]int{9, 10}, 1, 8}, place{nil, 2, 8}, place{[]int{11}, 2, 8}, place{nil, 3, 8})
	stands(t, mixed(), place{[]int{2}, 1, 0}, place{[]int{3}, 1, 1}, place{nil, 2, 0}, place{[]int{4}, 2, 1}, place{nil, 3, 1}, place{nil, 1, 5})
}
