package schema_test

import (
	"strings"
	"testing"

	"fascicle/api"
	"fascicle/schema"
)

// P13.1: a schema has 1 to MaxTables tables.
func TestTables(t *testing.T) {
	judged(t, api.Schema{}, false)
	judged(t, of(), false)
	for n := 1; n <= 14; n++ {
		judged(t, forest(repeated(-1, n)...), n <= api.MaxTables)
	}
	// One that is wrong is found wherever it stands.
	for i := range api.MaxTables {
		judged(t, changed(forest(repeated(-1, 12)...), func(l []api.Table) { l[i].Name = "-" }), false)
		judged(t, changed(forest(repeated(-1, 12)...), func(l []api.Table) { l[i].Key = 1 }), false)
	}
	judged(t, api.Schema{Tables: make([]api.Table, 1000000)}, false)
}

// P13.1: a table has 1 to MaxCols columns.
func TestCols(t *testing.T) {
	judged(t, of(root("a")), false)
	judged(t, of(api.Table{Name: "a", Key: -1, Ref: -1, Parent: -1}), false)
	for n := 1; n <= 10; n++ {
		judged(t, of(wide("a", n, 0)), n <= api.MaxCols)
		judged(t, of(wide("b", 1, 0), wide("a", n, 0)), n <= api.MaxCols)
		judged(t, of(wide("a", n, 0), wide("b", 1, 0)), n <= api.MaxCols)
	}
	judged(t, of(root("a", make([]api.Col, 1000000)...)), false)
}

// P13.1: a name has 1 to MaxName bytes, of a table and of a column.
func TestNameLengths(t *testing.T) {
	for _, n := range []int{0, 1, 2, 8, 15, 16, 17, 18, 32, 100, 101, 255, 256, 257, 272, 100000} {
		s := strings.Repeat("z", n)
		judged(t, of(root(s, col("id", number))), n >= 1 && n <= api.MaxName)
		judged(t, of(root("a", col(s, number))), n >= 1 && n <= api.MaxName)
		judged(t, of(root("a", col("id", number), null(s, text))), n >= 1 && n <= api.MaxName)
		judged(t, of(root("a", col("id", number)), kid(s, 0)), n >= 1 && n <= api.MaxName)
	}
}

// P13.1: a name's bytes are each of a to z, or 0 to 9.
func TestNameSigns(t *testing.T) {
	for c := range 256 {
		may := c >= 'a' && c <= 'z' || c >= '0' && c <= '9'
		for _, s := range []string{"", "x", "x0", "xxxxxxxxxxxxxxx"} {
			for at := range len(s) + 1 {
				name := s[:at] + string([]byte{byte(c)}) + s[at:]
				judged(t, of(root(name, col("id", number))), may)
				judged(t, of(root("a", col(name, number))), may)
			}
		}
	}
	for _, name := range []string{"\u00e9", "a\u20ac", "A", "aB", "a_b", "a-b", "a.b", "a b", " a", "a\n", "a\x00"} {
		judged(t, of(root(name, col("id", number))), false)
		judged(t, of(root("a", col("id", number), col(name, number))), false)
	}
}

// P13.1: no two tables have one name, and no two columns of one table; those of two tables may.
func TestNamesTwice(t *testing.T) {
	tables := forest(repeated(-1, 12)...)
	cols := of(root("x", col("id", number)), wide("y", 8, 2))
	for i := range 12 {
		for j := range i {
			judged(t, changed(tables, func(l []api.Table) { l[i].Name = l[j].Name }), false)
		}
	}
	for i := range 8 {
		for j := range i {
			judged(t, changed(cols, func(l []api.Table) { l[1].Cols[i].Name = l[1].Cols[j].Name }), false)
		}
	}
	judged(t, of(wide("a", 8, 0), wide("b", 8, 0)), true)              // the same columns
	judged(t, of(root("a", col("a", number)), kid("id", 0)), true)     // a column's name is a table's
	judged(t, of(root("of", col("id", number)), kid("id", 0)), true)   // of another table, too
	judged(t, of(root("a", col("id", number)), kid("a", 0)), false)    // a parent's name
	judged(t, of(root("a", col("a", number), col("A", text))), false)  // unlike, but no name
	judged(t, of(root("a", col("a", number), null("a", text))), false) // unlike columns
}

// P13.1: a column's Kind is from KindBool to KindString.
func TestKinds(t *testing.T) {
	for k := range 256 {
		may := k >= api.KindBool && k <= api.KindString
		judged(t, of(root("a", col("id", uint8(k)))), may)
		judged(t, of(root("a", col("id", number), col("x", uint8(k)))), may)
		judged(t, of(root("a", col("id", number), null("x", uint8(k)))), may)
		judged(t, pairOf(uint8(k)), may)
	}
}

// P13.1: Key is one of the columns, which is not Null.
func TestKeyColumns(t *testing.T) {
	for n := 1; n <= api.MaxCols; n++ {
		for _, key := range outside(n) {
			judged(t, changed(of(wide("a", n, 0)), func(l []api.Table) { l[0].Key = key }), false)
		}
		for key := range n {
			s := of(wide("a", n, key))
			judged(t, s, true)
			judged(t, changed(s, func(l []api.Table) { l[0].Cols[key].Null = true }), false)
			for other := range n {
				// Of the columns of wide, each second one is Null, but the Key.
				judged(t, changed(s, func(l []api.Table) { l[0].Key = other }), other == key || other%2 == 1)
			}
		}
	}
}

// P13.1: Ref and Parent are both -1, or none is.
func TestOneOfBoth(t *testing.T) {
	for at := 1; at < 3; at++ {
		s := forest(-1, 0, 1)
		judged(t, s, true)
		judged(t, changed(s, func(l []api.Table) { l[at].Ref = -1 }), false)
		judged(t, changed(s, func(l []api.Table) { l[at].Parent = -1 }), false)
		judged(t, changed(s, func(l []api.Table) { l[at].Ref, l[at].Parent = -1, -1 }), true)
		judged(t, changed(s, func(l []api.Table) { l[at].Ref, l[at].Parent = -2, -2 }), false)
		judged(t, changed(s, func(l []api.Table) { l[at].Ref, l[at].Parent = -1, -2 }), false)
		judged(t, changed(s, func(l []api.Table) { l[at].Ref, l[at].Parent = -2, -1 }), false)
	}
	for _, v := range []int{0, 1} {
		judged(t, changed(forest(-1, -1), func(l []api.Table) { l[0].Ref = v }), false)
		judged(t, changed(forest(-1, -1), func(l []api.Table) { l[1].Ref = v }), false)
		judged(t, changed(forest(-1, -1), func(l []api.Table) { l[0].Parent = v }), false)
		judged(t, changed(forest(-1, -1), func(l []api.Table) { l[1].Parent = v }), false)
	}
}

// P13.1: Ref is one of the columns, but Key, Null or not; and has the Kind of the Key's column of the parent.
func TestRefs(t *testing.T) {
	for n := 2; n <= api.MaxCols; n++ {
		for key := range n {
			for ref := range n {
				for _, k := range kinds() {
					kid := wide("b", n, key)
					kid.Ref, kid.Parent = ref, 0
					judged(t, of(root("a", col("id", k)), kid), ref != key && k == kindAt(ref))
				}
			}
			kid := wide("b", n, key)
			kid.Parent = 0
			for _, kid.Ref = range outside(n) {
				judged(t, of(root("a", col("id", kindAt(key))), kid), false)
			}
		}
	}
	// It is the parent's Key that counts, wherever that stands, and no other column of it.
	kid := api.Table{Name: "b", Cols: []api.Col{col("id", number), null("of", text)}, Ref: 1}
	parent := api.Table{Name: "a", Cols: []api.Col{null("x", text), col("y", number), col("z", text)}, Ref: -1, Parent: -1}
	for parent.Key = range 3 {
		judged(t, of(parent, kid), parent.Key == 2)
	}
}

// kindAt is the Kind of a column of wide.
func kindAt(at int) uint8 { return kinds()[at%5] }

// P13.1: Parent is a table ahead: not the table itself, one behind it, or none of the tables.
func TestParents(t *testing.T) {
	s := forest(-1, -1, 0, 1, 2, 3, 4)
	for i := range 7 {
		for parent := range 7 {
			c := changed(s, func(l []api.Table) { l[i] = kid("k", parent) })
			judged(t, c, parent < i)
		}
		for _, parent := range outside(7) {
			judged(t, changed(s, func(l []api.Table) { l[i] = kid("k", parent) }), false)
		}
	}
}

// P13.1: a parent's Key's column has the Kind of the Ref, of each two kinds.
func TestRefKinds(t *testing.T) {
	for _, a := range kinds() {
		for _, b := range kinds() {
			s := changed(pairOf(a), func(l []api.Table) { l[1].Cols[0].Kind = b })
			judged(t, s, a == b)
			judged(t, changed(s, func(l []api.Table) { l[1].Cols[0].Null = true }), a == b)
		}
	}
}

// P13.1: no table is deeper than MaxDepth.
func TestDeepest(t *testing.T) {
	for n := 1; n <= api.MaxTables; n++ {
		judged(t, chain(n), n <= api.MaxDepth)
	}
	deepest := []int{-1, 0, 1, 2, 3, 4, 5, 6} // tables of the depths 1 to 8
	judged(t, forest(append(deepest, 6, 6, 6, 6)...), true)
	for parent := range 8 {
		judged(t, forest(append(deepest, parent)...), parent != 7)
		judged(t, forest(append(deepest, -1, 8, 9, parent)...), parent != 7)
	}
	judged(t, forest(-1, -1, 1, 2, 3, 4, 5, 6, 7, 0, 8), false)
	judged(t, forest(-1, -1, 1, 2, 3, 4, 5, 6, 7, 0, 7), true)
}

// P13.1, P13.2, P13.3: no other call takes a schema that may not be.
func TestNoneTaken(t *testing.T) {
	for _, s := range bad() {
		for table := -2; table < 15; table++ {
			for _, row := range [][]api.Value{{{Kind: 2}}, {{Kind: 2}, {Kind: 2}}, nil} {
				tells(t, schema.Row(s, table, row), api.ErrArg)
			}
			tells(t, schema.Key(s, table, api.Value{Kind: 2}), api.ErrArg)
			if l := schema.Kids(s, table); len(l) != 0 {
				t.Errorf("Kids(%v, %d) = %v", s, table, l)
			}
			if n := schema.Depth(s, table); n != 0 {
				t.Errorf("Depth(%v, %d) = %d", s, table, n)
			}
			if n := schema.Root(s, table); n != -1 {
				t.Errorf("Root(%v, %d) = %d", s, table, n)
			}
		}
		got, e := schema.Put(s)
		tells(t, e, api.ErrArg)
		if got != "" {
			t.Errorf("Put(%v) = %q", s, got)
		}
	}
}
