package schema_test

import (
	"math"
	"math/rand"
	"reflect"
	"regexp"
	"slices"
	"strings"
	"testing"

	"fascicle/api"
	"fascicle/schema"
)

const (
	boolean = 1
	number  = 2
	point   = 3
	bytes   = 4
	text    = 5
)

const canonical = 0x7ff8000000000001 // the bits of NaN

// kinds are those that a column may have.
func kinds() []uint8 { return []uint8{boolean, number, point, bytes, text} }

func col(name string, kind uint8) api.Col { return api.Col{Name: name, Kind: kind} }

func null(name string, kind uint8) api.Col { return api.Col{Name: name, Kind: kind, Null: true} }

// root is a table without Ref, whose Key is its first column.
func root(name string, cols ...api.Col) api.Table {
	return api.Table{Name: name, Cols: cols, Key: 0, Ref: -1, Parent: -1}
}

// kid is a table of two columns, whose Key is the first one, and whose Ref is the second one.
func kid(name string, parent int) api.Table {
	return api.Table{Name: name, Cols: []api.Col{col("id", number), col("of", number)}, Key: 0, Ref: 1, Parent: parent}
}

func of(l ...api.Table) api.Schema { return api.Schema{Tables: l} }

// named is the n-th name of a table.
func named(n int) string { return string(rune('a' + n)) }

// forest has a table for each of the parents (-1: a root), which stand ahead of it.
func forest(parents ...int) api.Schema {
	var s api.Schema
	for i, p := range parents {
		if p < 0 {
			s.Tables = append(s.Tables, root(named(i), col("id", number)))
		} else {
			s.Tables = append(s.Tables, kid(named(i), p))
		}
	}
	return s
}

// chain has n tables, each the parent of the one behind it.
func chain(n int) api.Schema {
	var parents []int
	for i := range n {
		parents = append(parents, i-1)
	}
	return forest(parents...)
}

// repeated is n times the same number.
func repeated(v, n int) []int { return slices.Repeat([]int{v}, n) }

// pairOf is a root whose Key has that Kind, and a child of it.
func pairOf(kind uint8) api.Schema {
	return of(root("a", col("k", kind)),
		api.Table{Name: "b", Cols: []api.Col{col("of", kind), null("x", number), col("k", text)}, Key: 2, Ref: 0, Parent: 0})
}

// wide is a table of n columns, of all kinds, whose Key is that one of them; every second one of the others is Null.
func wide(name string, n, key int) api.Table {
	t := root(name)
	for i := range n {
		t.Cols = append(t.Cols, api.Col{Name: "c" + string(rune('0'+i)), Kind: kinds()[i%5], Null: i != key && i%2 == 0})
	}
	t.Key = key
	return t
}

// mixed has tables of all kinds: roots, children of Null Refs, names at their limits, as many columns as may be.
func mixed() api.Schema {
	return of(
		wide("0", 8, 7),
		root("zzzzzzzzzzzzzzzz", col("9999999999999999", text)),
		api.Table{Name: "t2", Cols: []api.Col{null("a", number), col("b", boolean), col("c", point)}, Key: 1, Ref: 2, Parent: 0},
		api.Table{Name: "t3", Cols: []api.Col{null("a", text), col("b", bytes)}, Key: 1, Ref: 0, Parent: 1},
		api.Table{Name: "t4", Cols: []api.Col{col("a", bytes), col("b", text), null("a1", bytes)}, Key: 0, Ref: 2, Parent: 3},
		api.Table{Name: "t5", Cols: []api.Col{null("n", boolean), col("k", boolean)}, Key: 1, Ref: -1, Parent: -1},
	)
}

// example is the one of the chapter.
func example() api.Schema { return forest(-1, 0) }

// schemas has schemas of all kinds that may be.
func schemas() []api.Schema {
	l := []api.Schema{
		mixed(), example(),
		of(root("a", col("a", boolean))),
		of(wide("w", 8, 0)), of(wide("w", 8, 3), wide("v", 1, 0)),
		chain(2), chain(7), chain(8),
		forest(repeated(-1, 12)...), forest(append([]int{-1}, repeated(0, 11)...)...),
		forest(-1, 0, 1, 2, 3, 4, 5, 6, -1, 8, 8, 10), forest(-1, -1, 0, 1, 0, 1, 2, 3, -1, 8, 4, 10),
		forest(-1, 0, 0, 1, 1, 2, 2, 3, 3, 4, 4, 5),
	}
	for _, k := range kinds() {
		l = append(l, pairOf(k))
	}
	return l
}

// changed is a copy of s that something was done to.
func changed(s api.Schema, do func(l []api.Table)) api.Schema {
	c := copied(s)
	do(c.Tables)
	return c
}

// copied is a schema that is the same, in memory of its own.
func copied(s api.Schema) api.Schema {
	c := api.Schema{Tables: slices.Clone(s.Tables)}
	for i := range c.Tables {
		c.Tables[i].Cols = slices.Clone(c.Tables[i].Cols)
		c.Tables[i].Name = strings.Clone(c.Tables[i].Name)
	}
	return c
}

// bad has schemas that may not be, one for each thing that may be wrong.
func bad() []api.Schema {
	l := []api.Schema{{}, of(), chain(9), forest(repeated(-1, 13)...), forest(-1, 0, 1, 2, 3, 4, 5, 6, 7), forest(1, -1), forest(0), forest(-1, 1)}
	for _, do := range []func(l []api.Table){
		func(l []api.Table) { l[1].Name = l[0].Name },
		func(l []api.Table) { l[1].Name = "" },
		func(l []api.Table) { l[1].Name = "B" },
		func(l []api.Table) { l[0].Name = strings.Repeat("a", 17) },
		func(l []api.Table) { l[0].Cols = nil },
		func(l []api.Table) { l[1].Cols = append(l[1].Cols, wide("", 7, 0).Cols...) },
		func(l []api.Table) { l[1].Cols[0].Name = l[1].Cols[1].Name },
		func(l []api.Table) { l[0].Cols[0].Name = "" },
		func(l []api.Table) { l[0].Cols[0].Name = "i d" },
		func(l []api.Table) { l[0].Cols[0].Kind, l[1].Cols[1].Kind = 0, 0 },
		func(l []api.Table) { l[0].Cols[0].Kind, l[1].Cols[1].Kind = 6, 6 },
		func(l []api.Table) { l[0].Cols[0].Null = true },
		func(l []api.Table) { l[0].Key = -1 },
		func(l []api.Table) { l[0].Key = 1 },
		func(l []api.Table) { l[1].Ref = -1 },
		func(l []api.Table) { l[1].Parent = -1 },
		func(l []api.Table) { l[1].Ref = 0 },
		func(l []api.Table) { l[1].Ref = 2 },
		func(l []api.Table) { l[1].Parent = 1 },
		func(l []api.Table) { l[1].Parent = 2 },
		func(l []api.Table) { l[1].Cols[1].Kind = text },
	} {
		l = append(l, changed(example(), do))
	}
	return l
}

// nameForm is what a name is, as the chapter's words say.
var nameForm = regexp.MustCompile("^[a-z0-9]{1,16}$")

// distinct tells whether all of l are names, no two the same.
func distinct(l []string) bool {
	for i, s := range l {
		if !nameForm.MatchString(s) || slices.Contains(l[:i], s) {
			return false
		}
	}
	return true
}

// deep is the depth of a table, told as the chapter's words say.
func deep(s api.Schema, table int) int {
	if s.Tables[table].Ref == -1 {
		return 1
	}
	return deep(s, s.Tables[table].Parent) + 1
}

// mayBe tells whether a schema may be, sentence by sentence of the chapter's words.
func mayBe(s api.Schema) bool {
	var tables []string
	for i, t := range s.Tables {
		tables = append(tables, t.Name)
		var cols []string
		for _, c := range t.Cols {
			cols = append(cols, c.Name)
			if !slices.Contains(kinds(), c.Kind) {
				return false
			}
		}
		if len(cols) == 0 || len(cols) > 8 || !distinct(cols) || !slices.Contains(places(len(cols)), t.Key) || t.Cols[t.Key].Null {
			return false
		}
		if t.Ref == -1 && t.Parent == -1 {
			continue
		}
		if !slices.Contains(places(len(cols)), t.Ref) || t.Ref == t.Key || !slices.Contains(places(i), t.Parent) {
			return false
		}
		if p := s.Tables[t.Parent]; p.Cols[p.Key].Kind != t.Cols[t.Ref].Kind || deep(s, i) > 8 {
			return false
		}
	}
	return len(tables) > 0 && len(tables) < 13 && distinct(tables)
}

// places are the numbers from 0 on, below n.
func places(n int) []int {
	var l []int
	for i := range n {
		l = append(l, i)
	}
	return l
}

// outside are numbers that are no place of n.
func outside(n int) []int {
	return []int{-1, -2, n, n + 1, n + 255, -256, 256 + n, math.MaxInt, math.MinInt, math.MaxInt32, math.MinInt32, 1 << 32, -1 << 32}
}

// values has values of each kind, at their edges.
func values(kind uint8) []api.Value {
	switch kind {
	case 0:
		return []api.Value{{}}
	case boolean:
		return []api.Value{{Kind: 1}, {Kind: 1, Int: 1}}
	case number:
		return []api.Value{{Kind: 2}, {Kind: 2, Int: math.MinInt64}, {Kind: 2, Int: math.MaxInt64}}
	case point:
		return []api.Value{{Kind: 3}, {Kind: 3, Real: 1 << 63}, {Kind: 3, Real: canonical}}
	case bytes:
		return []api.Value{{Kind: 4}, {Kind: 4, Text: "\xff"}, {Kind: 4, Text: strings.Repeat("\x80", 100)}}
	}
	return []api.Value{{Kind: 5}, {Kind: 5, Text: "\u00e9"}, {Kind: 5, Text: strings.Repeat("a", 100)}}
}

// wrong has values of each kind that may not be.
func wrong(kind uint8) []api.Value {
	switch kind {
	case 0:
		return []api.Value{{Int: 1}, {Real: 1}, {Text: "a"}}
	case boolean:
		return []api.Value{{Kind: 1, Int: 2}, {Kind: 1, Int: -1}, {Kind: 1, Real: 1}, {Kind: 1, Text: "a"}}
	case number:
		return []api.Value{{Kind: 2, Real: 1}, {Kind: 2, Text: "a"}}
	case point:
		return []api.Value{{Kind: 3, Real: canonical + 1}, {Kind: 3, Int: 1}, {Kind: 3, Text: "a"}}
	case bytes:
		return []api.Value{{Kind: 4, Text: strings.Repeat("a", 101)}, {Kind: 4, Int: 1}, {Kind: 4, Real: 1}}
	}
	return []api.Value{{Kind: 5, Text: "\xff"}, {Kind: 5, Text: strings.Repeat("a", 101)}, {Kind: 5, Int: 1}, {Kind: 5, Real: 1}}
}

// rowOf is a row that fits a table: of its columns' kinds, any of their values, and Null here and there where it may be.
func rowOf(r *rand.Rand, t api.Table) []api.Value {
	var l []api.Value
	for _, c := range t.Cols {
		if c.Null && r.Intn(3) == 0 {
			l = append(l, api.Value{})
			continue
		}
		all := values(c.Kind)
		l = append(l, all[r.Intn(len(all))])
	}
	return l
}

// same fails the test unless both are one schema, in each field; lists of none are one.
func same(t *testing.T, got, want api.Schema) {
	t.Helper()
	if len(got.Tables) == 0 && len(want.Tables) == 0 {
		return
	}
	if !reflect.DeepEqual(got, want) {
		t.Fatalf("%v, not %v", got, want)
	}
}

// tells fails the test unless the error is the one that is wanted.
func tells(t *testing.T, got, want api.Errno) {
	t.Helper()
	if got != want {
		t.Fatalf("it tells %v, not %v", got, want)
	}
}

// judged fails the test unless Check tells whether the schema may be.
func judged(t *testing.T, s api.Schema, may bool) {
	t.Helper()
	if e := schema.Check(s); may != (e == api.OK) || !may && e != api.ErrArg {
		t.Errorf("Check of %v: %v, but whether it may be: %v", s, e, may)
	}
	if mayBe(s) != may {
		t.Errorf("the plain telling of %v is at fault", s)
	}
}

// P13.1, P13.2, P13.3: the chapter's examples, and what they leave unsaid of them.
func TestExamples(t *testing.T) {
	s := of(
		api.Table{Name: "a", Cols: []api.Col{{Name: "id", Kind: api.KindInt}}, Key: 0, Ref: -1, Parent: -1},
		api.Table{Name: "b", Cols: []api.Col{{Name: "id", Kind: api.KindInt}, {Name: "of", Kind: api.KindInt}}, Key: 0, Ref: 1, Parent: 0},
	)
	tells(t, schema.Check(s), api.OK)
	if l := schema.Kids(s, 0); !slices.Equal(l, []int{1}) || len(schema.Kids(s, 1)) != 0 {
		t.Errorf("Kids of 0: %v, of 1: %v", l, schema.Kids(s, 1))
	}
	if schema.Depth(s, 1) != 2 || schema.Depth(s, 0) != 1 || schema.Root(s, 1) != 0 || schema.Root(s, 0) != 0 {
		t.Errorf("Depth %d %d, Root %d %d", schema.Depth(s, 0), schema.Depth(s, 1), schema.Root(s, 0), schema.Root(s, 1))
	}
	s.Tables[1].Parent = 1
	tells(t, schema.Check(s), api.ErrArg)
}

// P13.1, P13.2, P13.3: the schemas of these tests that may be are those, and those that may not are not.
func TestSchemas(t *testing.T) {
	for _, s := range schemas() {
		judged(t, s, true)
	}
	for _, s := range bad() {
		judged(t, s, false)
	}
}
