package schema

import (
	"fascicle/api"
	"fascicle/code"
	"fascicle/value"
)

// Put answers the schema's bytes.
func Put(s api.Schema) (string, api.Errno) {
	if e := Check(s); e != api.OK {
		return "", e
	}
	// What may be has room in its bytes: each number, and each one and 1, is a byte.
	text := []byte{byte(len(s.Tables))}
	for _, t := range s.Tables {
		text = append(appendName(text, t.Name), byte(len(t.Cols)))
		for _, c := range t.Cols {
			text = append(appendName(text, c.Name), c.Kind, flag(c.Null))
		}
		text = append(text, byte(t.Key), byte(t.Ref+1), byte(t.Parent+1))
	}
	return string(text), api.OK
}

// appendName puts a name behind: as the bytes of a row of one string.
func appendName(to []byte, name string) []byte {
	// A name is letters, and shorter than a value may be: there is no error to tell.
	v, _ := value.String(name)
	row, _ := code.PutRow([]api.Value{v})
	return append(to, row...)
}

func flag(is bool) byte {
	if is {
		return 1
	}
	return 0
}

// Get answers the schema whose bytes text is.
func Get(text string) (api.Schema, api.Errno) {
	r := reader{left: text}
	s := r.schema()
	if r.wrong || r.left != "" || Check(s) != api.OK {
		return api.Schema{}, api.ErrForm
	}
	return s, api.OK
}

// reader takes a schema's parts off the beginning of what is left, and tells whether one was wrong.
type reader struct {
	left  string
	wrong bool
}

func (r *reader) schema() api.Schema {
	var s api.Schema
	for range r.number() {
		s.Tables = append(s.Tables, r.table())
	}
	return s
}

func (r *reader) table() api.Table {
	t := api.Table{Name: r.name()}
	for range r.number() {
		t.Cols = append(t.Cols, r.col())
	}
	t.Key, t.Ref, t.Parent = r.number(), r.number()-1, r.number()-1
	return t
}

func (r *reader) col() api.Col {
	return api.Col{Name: r.name(), Kind: uint8(r.number()), Null: r.flag()}
}

func (r *reader) name() string {
	row, n, e := code.GetRow(r.left)
	if e != api.OK || len(row) != 1 || row[0].Kind != api.KindString {
		r.stop()
		return ""
	}
	r.left = r.left[n:]
	return row[0].Text
}

func (r *reader) flag() bool {
	n := r.number()
	if n > 1 {
		r.stop()
	}
	return n == 1
}

func (r *reader) number() int {
	if r.left == "" {
		r.stop()
		return 0
	}
	n := r.left[0]
	r.left = r.left[1:]
	return int(n)
}

// stop leaves nothing to be read: what follows is wrong, too, and short.
func (r *reader) stop() { *r = reader{wrong: true} }
