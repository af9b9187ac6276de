package value

import (
	"math"
	"unicode/utf8"

	"fascicle/api"
	"fascicle/real"
)

// Null answers the value that is none.
func Null() api.Value { return api.Value{Kind: api.KindNull} }

// Bool answers the value of yes (Int 1) or no.
func Bool(is bool) api.Value {
	v := api.Value{Kind: api.KindBool}
	if is {
		v.Int = 1
	}
	return v
}

// Int answers the value of n.
func Int(n int64) api.Value { return api.Value{Kind: api.KindInt, Int: n} }

// Real answers the value of f: all NaN are one.
func Real(f float64) api.Value {
	return api.Value{Kind: api.KindReal, Real: real.Canon(math.Float64bits(f))}
}

// Bytes answers the value of s, any bytes.
func Bytes(s string) (api.Value, api.Errno) {
	if len(s) > api.MaxText {
		return api.Value{}, api.ErrLong
	}
	return api.Value{Kind: api.KindBytes, Text: s}, api.OK
}

// String answers the value of s, which is valid UTF-8.
func String(s string) (api.Value, api.Errno) {
	if len(s) > api.MaxText {
		return api.Value{}, api.ErrLong
	}
	if !utf8.ValidString(s) {
		return api.Value{}, api.ErrForm
	}
	return api.Value{Kind: api.KindString, Text: s}, api.OK
}
