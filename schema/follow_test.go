package schema_test

import (
	"math/rand"
	"slices"
	"testing"

	"fascicle/api"
	"fascicle/schema"
)

// wild is a schema of any shape that may be, with any names, kinds and places.
func wild(r *rand.Rand) api.Schema {
	var s api.Schema
	for i := range 1 + r.Intn(api.MaxTables) {
		n := 2 + r.Intn(api.MaxCols-1)
		t := wide("", n, r.Intn(n))
		t.Name = named(i) + wildName(r, r.Intn(api.MaxName))
		for j := range t.Cols {
			t.Cols[j].Name = "0123456789"[j:j+1] + wildName(r, r.Intn(api.MaxName))
			t.Cols[j].Kind = kinds()[r.Intn(5)]
			t.Cols[j].Null = j != t.Key && r.Intn(2) == 0
		}
		if i > 0 && r.Intn(4) > 0 {
			t.Ref, t.Parent = (t.Key+1+r.Intn(n-1))%n, r.Intn(i)
			if r.Intn(3) == 0 {
				t.Parent = i - 1
			}
			p := s.Tables[t.Parent]
			t.Cols[t.Ref].Kind = p.Cols[p.Key].Kind
		}
		s.Tables = append(s.Tables, t)
		if deep(s, i) > api.MaxDepth {
			s.Tables[i].Ref, s.Tables[i].Parent = -1, -1
		}
	}
	return s
}

// wildName is n signs of a name.
func wildName(r *rand.Rand, n int) string {
	b := make([]byte, n)
	for i := range b {
		b[i] = "abcdefghijklmnopqrstuvwxyz0123456789"[r.Intn(36)]
	}
	return string(b)
}

// P13.4: what was put is got.
func TestPutGot(t *testing.T) {
	r := rand.New(rand.NewSource(5))
	for range 3000 {
		s := wild(r)
		judged(t, s, true)
		text, e := schema.Put(s)
		tells(t, e, api.OK)
		if text != bytesOf(s) {
			t.Fatalf("Put(%v) = %q", s, text)
		}
		back, e := schema.Get(text)
		tells(t, e, api.OK)
		same(t, back, s)
	}
}

// P13.4, P13.2: each table is the child of at most one, of another depth; and one comes to its root in as many steps as its depth is, less one.
func TestTrees(t *testing.T) {
	r := rand.New(rand.NewSource(6))
	for _, s := range append(schemas(), repeatedly(2000, func() api.Schema { return wild(r) })...) {
		parent := repeated(-1, len(s.Tables))
		for i := range s.Tables {
			kids := schema.Kids(s, i)
			if !slices.IsSorted(kids) {
				t.Fatalf("Kids of %d: %v", i, kids)
			}
			for _, k := range kids {
				if parent[k] != -1 || schema.Depth(s, k) != schema.Depth(s, i)+1 || schema.Root(s, k) != schema.Root(s, i) {
					t.Fatalf("%d is a child of %d, and of %d, of %v", k, i, parent[k], s)
				}
				parent[k] = i
			}
		}
		for i, table := range s.Tables {
			if parent[i] != table.Parent || schema.Depth(s, i) != deep(s, i) {
				t.Fatalf("%d is a child of %d of %v", i, parent[i], s)
			}
			at, steps := i, 0
			for parent[at] != -1 {
				at = parent[at]
				steps++
			}
			if steps != schema.Depth(s, i)-1 || at != schema.Root(s, i) {
				t.Fatalf("from %d one comes to %d in %d steps, not to %d: %v", i, at, steps, schema.Root(s, i), s)
			}
		}
	}
}

// repeatedly is what n calls answer.
func repeatedly(n int, one func() api.Schema) []api.Schema {
	var l []api.Schema
	for range n {
		l = append(l, one())
	}
	return l
}

// anyOf is one of l.
func anyOf(r *rand.Rand, l ...int) int { return l[r.Intn(len(l))] }

// P13.1, P13.3: schemas with one or two things changed, told as the plain way tells them.
func TestChanged(t *testing.T) {
	r := rand.New(rand.NewSource(7))
	may := 0
	for range 20000 {
		s := wild(r)
		for range 1 + r.Intn(2) {
			spoil(r, s.Tables)
		}
		judged(t, s, mayBe(s))
		text, e := schema.Put(s)
		if mayBe(s) {
			may++
			tells(t, e, api.OK)
			got(t, text)
			continue
		}
		tells(t, e, api.ErrArg)
		got(t, bytesOf(s))
		for table := -1; table <= len(s.Tables); table++ {
			if len(schema.Kids(s, table)) != 0 || schema.Depth(s, table) != 0 || schema.Root(s, table) != -1 {
				t.Fatalf("there is a table %d of %v", table, s)
			}
		}
	}
	if may < 2000 || may > 18000 {
		t.Errorf("%d of the changed ones may be", may)
	}
}

// spoil changes one thing of one table, so that it may be wrong.
func spoil(r *rand.Rand, l []api.Table) {
	t := &l[r.Intn(len(l))]
	c := &t.Cols[r.Intn(len(t.Cols))]
	switch r.Intn(9) {
	case 0:
		t.Name = l[r.Intn(len(l))].Name
	case 1:
		t.Name = []string{"", "a", "A", "a-", wildName(r, 16), wildName(r, 17)}[r.Intn(6)]
	case 2:
		c.Name = t.Cols[r.Intn(len(t.Cols))].Name
	case 3:
		c.Name = []string{"", "a", "A", "a-", wildName(r, 16), wildName(r, 17)}[r.Intn(6)]
	case 4:
		c.Kind = uint8(anyOf(r, 0, 1, 2, 3, 4, 5, 6, 255))
	case 5:
		c.Null = !c.Null
	case 6:
		t.Key = anyOf(r, -1, 0, 1, 2, len(t.Cols)-1, len(t.Cols))
	case 7:
		t.Ref = anyOf(r, -2, -1, 0, 1, 2, len(t.Cols)-1, len(t.Cols))
	case 8:
		t.Parent = anyOf(r, -2, -1, 0, 1, 2, len(l)-1, len(l))
	}
}

// P13.1: rows of any values against tables of any columns, as the plain way tells them.
func TestAnyRows(t *testing.T) {
	r := rand.New(rand.NewSource(8))
	for range 20000 {
		s := wild(r)
		i := r.Intn(len(s.Tables))
		table := s.Tables[i]
		row := rowOf(r, table)
		want := api.OK
		if r.Intn(2) == 0 {
			at, kind := r.Intn(len(row)), uint8(r.Intn(6))
			row[at] = values(kind)[0]
			if c := table.Cols[at]; kind != c.Kind && (kind != 0 || !c.Null) {
				want = api.ErrArg
			}
		}
		tells(t, schema.Row(s, i, row), want)
		for at, v := range row {
			keyWant := api.ErrArg
			if v.Kind == table.Cols[table.Key].Kind {
				keyWant = api.OK
			}
			if e := schema.Key(s, i, v); e != keyWant {
				t.Fatalf("Key of %v (%d) in %v: %v", v, at, table, e)
			}
		}
	}
}

// P13.1, P13.2, P13.3: no call changes what it is given.
func TestUnchanged(t *testing.T) {
	r := rand.New(rand.NewSource(9))
	for _, s := range append(schemas(), bad()...) {
		was := copied(s)
		schema.Check(s)
		schema.Put(s)
		for i, table := range s.Tables {
			if mayBe(s) {
				row := rowOf(r, table)
				wasRow := slices.Clone(row)
				schema.Row(s, i, row)
				schema.Key(s, i, row[0])
				if !slices.Equal(row, wasRow) {
					t.Fatalf("Row changed %v into %v", wasRow, row)
				}
			}
			schema.Kids(s, i)
			schema.Depth(s, i)
			schema.Root(s, i)
		}
		same(t, s, was)
	}
}

// P13.3, P13.2: what is answered shares no memory with what was answered ahead of it, within it, or with what was given.
func TestNoShare(t *testing.T) {
	for _, s := range schemas() {
		text, e := schema.Put(s)
		tells(t, e, api.OK)
		was := copied(s)
		scrawl(s) // what was put stays
		a, _ := schema.Get(text)
		b, _ := schema.Get(text)
		same(t, a, was)
		scrawl(a)
		same(t, b, was)
		again, e := schema.Put(b)
		tells(t, e, api.OK)
		if again != text {
			t.Fatalf("Put: %q, not %q", again, text)
		}
	}
	for _, s := range schemas() {
		// A list of columns that is made longer reaches into no other one.
		text, _ := schema.Put(s)
		a, _ := schema.Get(text)
		for i := range a.Tables {
			_ = append(a.Tables[i].Cols, col("zz", 9), col("zz", 9), col("zz", 9))
		}
		_ = append(a.Tables, root("zz"))
		same(t, a, s)
		for i := range s.Tables {
			k, l := schema.Kids(s, i), schema.Kids(s, i)
			was := slices.Clone(l)
			for j := range k {
				k[j] = 99
			}
			if !slices.Equal(l, was) || !slices.Equal(schema.Kids(s, i), was) {
				t.Fatalf("Kids share memory: %v, not %v", l, was)
			}
		}
	}
}

// scrawl changes all that a schema has.
func scrawl(s api.Schema) {
	for i := range s.Tables {
		t := &s.Tables[i]
		for j := range t.Cols {
			t.Cols[j] = api.Col{Name: "scrawl", Kind: 99, Null: !t.Cols[j].Null}
		}
		*t = api.Table{Name: "scrawl", Cols: t.Cols, Key: 7, Ref: 7, Parent: 7}
	}
}
