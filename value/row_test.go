package value_test

import (
	"slices"
	"strings"
	"testing"

	"fascicle/api"
	"fascicle/value"
)

func of(l ...api.Value) []api.Value { return l }

func num(n int64) api.Value { return api.Value{Kind: 2, Int: n} }

func text(s string) api.Value { return api.Value{Kind: 5, Text: s} }

func point(bits uint64) api.Value { return api.Value{Kind: 3, Real: bits} }

// rows has rows in the order that the chapter gives.
func rows() [][]api.Value {
	return [][]api.Value{
		nil,
		of(api.Value{}),
		of(api.Value{}, api.Value{}),
		of(api.Value{}, num(9)),
		of(num(-1)),
		of(num(-1), text("z"), text("z")),
		of(num(1)),
		of(num(1), api.Value{}),
		of(num(1), num(1)),
		of(num(1), num(1), num(1)),
		of(num(1), num(1), num(2)),
		of(num(1), num(2), num(1)),
		of(num(1), text("")),
		of(num(1), text("a")),
		of(num(1), text("a"), num(-5)),
		of(num(1), text("aa"), num(-9)),
		of(num(2), num(-9)),
		of(point(minusZero), num(9)),
		of(point(0), num(1)),
		of(point(0), num(2)),
		of(point(nan)),
		of(point(nan), num(1)),
		of(api.Value{Kind: 4, Text: "z"}, num(9)),
		of(text("a"), num(9)),
		of(text("b"), num(1), num(1), num(1), num(1), num(1), num(1)),
		of(text("b"), num(1), num(1), num(1), num(1), num(1), num(1), num(1)),
		of(text("b"), num(1), num(1), num(1), num(1), num(1), num(1), num(2)),
		of(text("b"), num(1), num(1), num(1), num(2), num(1), num(1), num(1)),
		of(text("b"), num(2)),
	}
}

// ahead asks that a is ahead of b, and b not of a.
func ahead(t *testing.T, a, b []api.Value) {
	t.Helper()
	if !value.RowLess(a, b) {
		t.Errorf("%#v is not ahead of %#v", a, b)
	}
	if value.RowLess(b, a) {
		t.Errorf("%#v is ahead of %#v", b, a)
	}
}

// P4.3: any two rows, both ways round, and each with itself; an argument stays as it is.
func TestRowLessOrder(t *testing.T) {
	l := rows()
	for i, a := range l {
		for j, b := range l {
			if got := value.RowLess(a, b); got != (i < j) {
				t.Errorf("RowLess(%#v, %#v): %t", a, b, got)
			}
			if got := value.Same(a, b); got != (i == j) {
				t.Errorf("Same(%#v, %#v): %t", a, b, got)
			}
		}
	}
	for i, a := range rows() {
		if !slices.Equal(a, l[i]) {
			t.Errorf("%#v was changed: %#v", a, l[i])
		}
	}
}

// P4.3: rows that part at one value, wherever it stands, whatever stands behind it.
func TestRowLessParts(t *testing.T) {
	for n := 1; n <= 8; n++ {
		for at := range n {
			a, b := row(n), row(n)
			a[at], b[at] = num(1), num(2)
			ahead(t, a, b)
			for i := at + 1; i < n; i++ {
				a[i], b[i] = text("z"), text("a")
			}
			ahead(t, a, b)
			ahead(t, append(a, num(1)), b)
			ahead(t, a, append(b, num(1)))
		}
	}
}

// P4.3: where one begins the other one the shorter one is first, the one without values too.
func TestRowLessBegins(t *testing.T) {
	for n := range 12 {
		for k := range n {
			ahead(t, row(n)[:k], row(n))
		}
		if value.RowLess(row(n), row(n)) {
			t.Errorf("a row of %d values is ahead of itself", n)
		}
	}
	if value.RowLess(nil, []api.Value{}) || value.RowLess([]api.Value{}, nil) {
		t.Error("one of two rows without values is ahead")
	}
	ahead(t, nil, of(api.Value{}))
	ahead(t, []api.Value{}, of(api.Value{}))
}

// P4.3: where of the first values that are not the same none is ahead, no row is, whatever stands behind, and however long they are.
func TestRowLessNone(t *testing.T) {
	first := [][]api.Value{nil, of(num(1)), of(text("a"), num(2), api.Value{})}
	behind := [][]api.Value{nil, of(num(1)), of(num(2)), of(num(1), num(2)), of(point(nan)), of(text("z"), text("z"), text("z"))}
	for _, head := range first {
		for _, x := range append(nanBits(), nan) {
			for _, y := range append(nanBits(), nan) {
				if x == y {
					continue
				}
				for _, p := range behind {
					for _, q := range behind {
						a, b := slices.Concat(head, of(point(x)), p), slices.Concat(head, of(point(y)), q)
						if value.RowLess(a, b) || value.RowLess(b, a) {
							t.Fatalf("one of %#v and %#v is ahead", a, b)
						}
					}
				}
			}
		}
	}
	// Ahead of such values the rows part as ever.
	ahead(t, of(num(1), point(nan)), of(num(2), point(0x7ff8000000000000)))
	// The same bits are the same value, so that the next ones tell it.
	for _, x := range nanBits() {
		ahead(t, of(point(x), num(1)), of(point(x), num(2)))
		ahead(t, of(point(x)), of(point(x), num(2)))
	}
}

// P4.3: values that may not be are told by all their fields, whatever their kind.
func TestRowLessFields(t *testing.T) {
	for _, x := range []struct{ a, b api.Value }{
		{api.Value{Kind: 6}, api.Value{Kind: 7}},
		{api.Value{Kind: 0, Int: -1}, api.Value{Kind: 0}},
		{api.Value{Kind: 5, Int: 1, Text: "z"}, api.Value{Kind: 5, Int: 2, Text: "a"}},
		{api.Value{Kind: 2, Int: 1, Real: minusZero}, api.Value{Kind: 2, Int: 1}},
		{api.Value{Kind: 1, Text: "a"}, api.Value{Kind: 1, Text: "b"}},
	} {
		ahead(t, of(x.a), of(x.b))
		ahead(t, of(num(1), x.a, num(9)), of(num(1), x.b, num(1)))
	}
}

// P4.3: rows are the same if all fields of all values are.
func TestSame(t *testing.T) {
	for n := range 12 {
		if !value.Same(row(n), row(n)) {
			t.Errorf("a row of %d values is not the same as itself", n)
		}
		for k := range n {
			if value.Same(row(n), row(n)[:k]) || value.Same(row(n)[:k], row(n)) {
				t.Errorf("rows of %d and %d values are the same", n, k)
			}
		}
	}
	if !value.Same(nil, []api.Value{}) || !value.Same([]api.Value{}, nil) || !value.Same(nil, nil) {
		t.Error("rows without values are not the same")
	}
	if value.Same(nil, of(api.Value{})) || value.Same(of(api.Value{}), nil) {
		t.Error("a row of one value is the same as one without")
	}
	a := []byte("text")
	if !value.Same(of(text(string(a))), of(text(strings.Clone("text")))) {
		t.Error("texts that lie elsewhere are not the same")
	}
}

// P4.3: one field of one value is another one, wherever the value stands, also in what may not be.
func TestSameFields(t *testing.T) {
	whole := api.Value{Kind: 2, Int: 3, Real: 4, Text: "five"}
	for _, x := range []api.Value{
		{Kind: 3, Int: 3, Real: 4, Text: "five"},
		{Kind: 2, Int: -3, Real: 4, Text: "five"},
		{Kind: 2, Int: 3 + 1<<32, Real: 4, Text: "five"},
		{Kind: 2, Int: 3, Real: 5, Text: "five"},
		{Kind: 2, Int: 3, Real: 4 + minusZero, Text: "five"},
		{Kind: 2, Int: 3, Real: 4, Text: "fivE"},
		{Kind: 2, Int: 3, Real: 4, Text: "five\x00"},
		{Kind: 2, Int: 3, Real: 4, Text: "fiv"},
		{Kind: 2, Int: 3, Real: 4},
	} {
		for n := 1; n <= 9; n++ {
			for at := range n {
				a, b := row(n), row(n)
				a[at], b[at] = whole, whole
				if !value.Same(a, b) {
					t.Errorf("%#v is not the same as itself", a)
				}
				b[at] = x
				if value.Same(a, b) || value.Same(b, a) {
					t.Errorf("%#v and %#v are the same", a, b)
				}
			}
		}
	}
}

// P4.3: bits tell, not numbers: -0 is not 0, NaN of unlike bits are not one, and NaN of the same bits are.
func TestSameBits(t *testing.T) {
	if value.Same(of(point(0)), of(point(minusZero))) {
		t.Error("-0 and 0 are the same")
	}
	l := append(nanBits(), nan)
	for i, x := range l {
		for j, y := range l {
			if got := value.Same(of(point(x)), of(point(y))); got != (i == j) {
				t.Errorf("NaN %016x and NaN %016x: %t", x, y, got)
			}
		}
	}
}

// P4.4: of two rows that may be one is ahead, or they are the same; what is ahead of one that is ahead of a third one is ahead of that.
func TestRowsInOrder(t *testing.T) {
	var l [][]api.Value
	for i, v := range good() {
		l = append(l, of(v), of(v, num(int64(i%3))), of(num(1), v))
	}
	slices.SortFunc(l, func(a, b []api.Value) int {
		switch {
		case value.RowLess(a, b):
			return -1
		case value.RowLess(b, a):
			return 1
		}
		return 0
	})
	for i, a := range l {
		for j, b := range l {
			same := value.Same(a, b)
			if value.RowLess(a, b) != (i < j && !same) || value.RowLess(b, a) != (j < i && !same) {
				t.Fatalf("%#v, %#v", a, b)
			}
		}
	}
}
