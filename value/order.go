package value

import (
	"fascicle/api"
	"fascicle/real"
)

// Less answers whether a is ahead of b. What a kind does not name is zero in values that may be, so that all fields are asked of any two.
func Less(a, b api.Value) bool {
	switch {
	case a.Kind != b.Kind:
		return a.Kind < b.Kind
	case a.Int != b.Int:
		return a.Int < b.Int
	case real.Less(a.Real, b.Real):
		return true
	case real.Less(b.Real, a.Real):
		return false
	}
	return a.Text < b.Text
}

// RowLess answers whether row a is ahead of row b: the first values that are not the same tell it, even if none of both is ahead (NaN of unlike bits).
func RowLess(a, b []api.Value) bool {
	for i := range min(len(a), len(b)) {
		if a[i] != b[i] {
			return Less(a[i], b[i])
		}
	}
	return len(a) < len(b)
}

// Same answers whether two rows have as many values, each the same in all its fields.
func Same(a, b []api.Value) bool {
	if len(a) != len(b) {
		return false
	}
	for i := range a {
		if a[i] != b[i] {
			return false
		}
	}
	return true
}
