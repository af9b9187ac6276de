package key

import (
	"fascicle/api"
	"fascicle/real"
	"fascicle/value"
)

// reading reads a key, or what is left of it, to its end, and answers whether it is one.
type reading func(s string) bool

// goOn takes a value that was read, and reads what is left behind it.
type goOn func(v api.Value, left string) bool

// Get answers the row whose key s is.
func Get(s string) ([]api.Value, api.Errno) {
	var row []api.Value
	var rest reading
	kinds := readings(func(v api.Value, left string) bool {
		if len(row) == api.MaxCols || value.Check(v) != api.OK {
			return false
		}
		row = append(row, v)
		return rest(left)
	})
	rest = func(s string) bool {
		if s == "" {
			return true
		}
		kind := int(s[0]) - 1
		return kind >= 0 && kind < len(kinds) && kinds[kind](s[1:])
	}
	if !rest(s) {
		return nil, api.ErrForm
	}
	return row, api.OK
}

// readings answers each kind's reading of what stands behind the kind. Whether the value may be is left to on.
func readings(on goOn) [6]reading {
	text := func(kind uint8) reading {
		return func(s string) bool {
			whole, left, is := cutText(s)
			return is && on(api.Value{Kind: kind, Text: whole}, left)
		}
	}
	return [6]reading{
		api.KindNull: func(s string) bool { return on(value.Null(), s) },
		api.KindBool: func(s string) bool {
			return s != "" && on(api.Value{Kind: api.KindBool, Int: int64(s[0])}, s[1:])
		},
		api.KindInt: func(s string) bool {
			n, left, is := cutNumber(s)
			return is && on(value.Int(int64(n-half)), left)
		},
		api.KindReal: func(s string) bool {
			n, left, is := cutNumber(s)
			bits, e := real.Back(n)
			return is && e == api.OK && on(api.Value{Kind: api.KindReal, Real: bits}, left)
		},
		api.KindBytes:  text(api.KindBytes),
		api.KindString: text(api.KindString),
	}
}

// cutNumber answers the number that s begins with, and what is left behind it.
func cutNumber(s string) (n uint64, left string, is bool) {
	if len(s) < wide {
		return 0, "", false
	}
	for i := range wide {
		n = n<<8 | uint64(s[i])
	}
	return n, s[wide:], true
}

// cutText answers the text whose key s begins with, and what is left behind it. One that is too long is not read to its end.
func cutText(s string) (text, left string, is bool) {
	var l []byte
	for i := 0; i < len(s) && len(l) <= api.MaxText; i++ {
		letter := s[i]
		if letter == mark {
			i++
			if i < len(s) && s[i] == end {
				return string(l), s[i+1:], true
			}
			if i == len(s) || s[i] != stay {
				return "", "", false
			}
		}
		l = append(l, letter)
	}
	return "", "", false
}
