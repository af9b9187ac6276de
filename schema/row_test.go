package schema_test

import (
	"math/rand"
	"slices"
	"testing"

	"fascicle/api"
	"fascicle/schema"
)

// P13.1: a row that fits is one of as many values as the table has columns, each of its column's Kind, or Null where it may be.
func TestRows(t *testing.T) {
	r := rand.New(rand.NewSource(1))
	for _, s := range schemas() {
		for i, table := range s.Tables {
			for range 20 {
				tells(t, schema.Row(s, i, rowOf(r, table)), api.OK)
			}
		}
	}
	tells(t, schema.Row(example(), 1, []api.Value{{Kind: 2, Int: 1}, {Kind: 2, Int: 7}}), api.OK)
}

// P13.1: a row of too few values, or of too many, does not fit.
func TestRowLengths(t *testing.T) {
	r := rand.New(rand.NewSource(2))
	for n := 1; n <= api.MaxCols; n++ {
		s := of(wide("a", n, 0), wide("b", 9-n, 0))
		row := rowOf(r, wide("c", 8, 0))
		row = append(row, row...)
		for m := range len(row) + 1 {
			want := api.ErrArg
			if m == n {
				want = api.OK
			}
			tells(t, schema.Row(s, 0, row[:m:m]), want)
		}
	}
	tells(t, schema.Row(example(), 0, nil), api.ErrArg)
	tells(t, schema.Row(example(), 0, make([]api.Value, 1000000)), api.ErrArg)
	tells(t, schema.Row(example(), 0, make([]api.Value, 257)), api.ErrArg)
}

// P13.1: values of each Kind in columns of each Kind, Null and not; and values that may not be.
func TestRowKinds(t *testing.T) {
	for _, k := range kinds() {
		for _, c := range []api.Col{col("c", k), null("c", k)} {
			s := of(api.Table{Name: "a", Cols: []api.Col{c, col("id", number)}, Key: 1, Ref: -1, Parent: -1})
			fits := func(v api.Value, want api.Errno) {
				t.Helper()
				row := []api.Value{v, {Kind: 2, Int: 1}}
				if e := schema.Row(s, 0, row); e != want {
					t.Errorf("Row of %v in a column %v: %v, not %v", v, c, e, want)
				}
			}
			for other := range uint8(8) {
				for _, v := range values(other) {
					v.Kind = other // of 6 and 7, too
					want := api.ErrArg
					if other == k || c.Null && other == 0 {
						want = api.OK
					}
					fits(v, want)
				}
				for _, v := range wrong(other) {
					v.Kind = other
					fits(v, api.ErrArg)
				}
			}
		}
	}
}

// P13.1: one value that does not fit is found wherever it stands.
func TestRowPlaces(t *testing.T) {
	r := rand.New(rand.NewSource(3))
	for key := range 8 {
		table := wide("a", 8, key)
		s := of(root("b", col("id", number)), table)
		row := rowOf(r, table)
		for i := range row {
			for kind := range uint8(6) {
				with := slices.Clone(row)
				with[i] = values(kind)[0]
				want := api.ErrArg
				if kind == table.Cols[i].Kind || kind == 0 && table.Cols[i].Null {
					want = api.OK
				}
				tells(t, schema.Row(s, 1, with), want)
				with[i] = wrong(kind)[0]
				tells(t, schema.Row(s, 1, with), api.ErrArg)
			}
		}
	}
}

// P13.1: Row and Key of tables that there are, and of those that are none.
func TestRowTables(t *testing.T) {
	r := rand.New(rand.NewSource(4))
	for _, s := range schemas() {
		for i, table := range s.Tables {
			row := rowOf(r, table)
			tells(t, schema.Row(s, i, row), api.OK)
			tells(t, schema.Key(s, i, row[table.Key]), api.OK)
			for _, none := range outside(len(s.Tables)) {
				tells(t, schema.Row(s, none, row), api.ErrArg)
				tells(t, schema.Key(s, none, row[table.Key]), api.ErrArg)
			}
		}
	}
}

// P13.1: a row is held against the columns of its own table.
func TestRowOfAnother(t *testing.T) {
	s := of(root("a", col("id", number)), root("b", col("id", text)), root("c", col("id", number), col("x", text)))
	rows := [][]api.Value{{{Kind: 2}}, {{Kind: 5}}, {{Kind: 2}, {Kind: 5}}}
	for i := range 3 {
		for j, row := range rows {
			want := api.ErrArg
			if i == j {
				want = api.OK
			}
			tells(t, schema.Row(s, i, row), want)
		}
	}
}

// P13.1: Key takes a value that may be, of the Kind of the Key's column, and no Null, though other columns may be.
func TestKeys(t *testing.T) {
	for _, k := range kinds() {
		for _, table := range []api.Table{
			root("a", col("k", k)),
			{Name: "a", Cols: []api.Col{null("x", number), null("y", text), col("k", k)}, Key: 2, Ref: -1, Parent: -1},
			{Name: "a", Cols: []api.Col{null("x", k), col("k", k), null("y", k)}, Key: 1, Ref: -1, Parent: -1},
		} {
			for other := range uint8(8) {
				for _, v := range values(other) {
					v.Kind = other
					want := api.ErrArg
					if other == k {
						want = api.OK
					}
					tells(t, schema.Key(of(table), 0, v), want)
					tells(t, schema.Key(of(root("b", col("k", 6-k)), table), 1, v), want)
				}
				for _, v := range wrong(other) {
					tells(t, schema.Key(of(table), 0, v), api.ErrArg)
				}
			}
		}
	}
}
