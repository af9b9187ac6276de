package schema_test

import (
	"strings"
	"testing"

	"fascicle/api"
	"fascicle/schema"
)

// exampleBytes are those of the chapter's example, written out.
const exampleBytes = "\x02" +
	"\x01\x05\x01a" + "\x01" + "\x01\x05\x02id\x02\x00" + "\x00\x00\x00" +
	"\x01\x05\x01b" + "\x02" + "\x01\x05\x02id\x02\x00" + "\x01\x05\x02of\x02\x00" + "\x00\x02\x01"

// nameBytes has a name as a row of one string, as layer 5's words say.
func nameBytes(s string) string { return "\x01\x05" + string([]byte{byte(len(s))}) + s }

// bytesOf has a schema's bytes as the chapter's words say, whether it may be or not.
func bytesOf(s api.Schema) string {
	var b strings.Builder
	number := func(n int) { b.WriteByte(byte(n)) }
	number(len(s.Tables))
	for _, t := range s.Tables {
		b.WriteString(nameBytes(t.Name))
		number(len(t.Cols))
		for _, c := range t.Cols {
			b.WriteString(nameBytes(c.Name))
			number(int(c.Kind))
			if c.Null {
				number(1)
			} else {
				number(0)
			}
		}
		number(t.Key)
		number(t.Ref + 1)
		number(t.Parent + 1)
	}
	return b.String()
}

// plainGet tells the schema whose bytes text is, if there is one: what wants is told by a panic.
func plainGet(text string) (s api.Schema, is bool) {
	defer func() {
		if recover() != nil {
			s, is = api.Schema{}, false
		}
	}()
	at := 0
	number := func() int { at++; return int(text[at-1]) }
	name := func() string {
		if text[at:at+2] != "\x01\x05" {
			panic("no row of one string")
		}
		at += 2
		n := number()
		at += n
		return text[at-n : at]
	}
	for range number() {
		t := api.Table{Name: name()}
		for range number() {
			c := api.Col{Name: name()}
			c.Kind = uint8(number())
			c.Null = number() == 1
			t.Cols = append(t.Cols, c)
		}
		t.Key = number()
		t.Ref = number() - 1
		t.Parent = number() - 1
		s.Tables = append(s.Tables, t)
	}
	if at != len(text) || !mayBe(s) || bytesOf(s) != text {
		return api.Schema{}, false
	}
	return s, true
}

// got fails the test unless Get tells what the plain reading does.
func got(t *testing.T, text string) {
	t.Helper()
	want, is := plainGet(text)
	s, e := schema.Get(text)
	if is != (e == api.OK) || !is && e != api.ErrForm {
		t.Fatalf("Get of %q: %v, but whether these are a schema's bytes: %v", text, e, is)
	}
	same(t, s, want)
}

// refused fails the test unless these bytes are none of a schema.
func refused(t *testing.T, text string) {
	t.Helper()
	got(t, text)
	if s, e := schema.Get(text); e != api.ErrForm || len(s.Tables) != 0 {
		t.Errorf("Get of %q: %v %v", text, s, e)
	}
}

// P13.3: the bytes of schemas, written out, put and got.
func TestBytes(t *testing.T) {
	for _, one := range []struct {
		s    api.Schema
		text string
	}{
		{example(), exampleBytes},
		{of(root("a", col("k", boolean))), "\x01\x01\x05\x01a\x01\x01\x05\x01k\x01\x00\x00\x00\x00"},
		{of(api.Table{Name: "0123456789abcdef", Cols: []api.Col{null("x", text), null("y0", bytes), col("z", point)}, Key: 2, Ref: -1, Parent: -1},
			api.Table{Name: "k", Cols: []api.Col{col("id", number), null("r", point)}, Key: 0, Ref: 1, Parent: 0}),
			"\x02" + "\x01\x05\x100123456789abcdef" + "\x03" + "\x01\x05\x01x\x05\x01" + "\x01\x05\x02y0\x04\x01" + "\x01\x05\x01z\x03\x00" + "\x02\x00\x00" +
				"\x01\x05\x01k" + "\x02" + "\x01\x05\x02id\x02\x00" + "\x01\x05\x01r\x03\x01" + "\x00\x02\x01"},
	} {
		s, e := schema.Put(one.s)
		tells(t, e, api.OK)
		if s != one.text {
			t.Errorf("Put: %q, not %q", s, one.text)
		}
		back, e := schema.Get(one.text)
		tells(t, e, api.OK)
		same(t, back, one.s)
	}
	for _, s := range schemas() {
		text, e := schema.Put(s)
		tells(t, e, api.OK)
		if text != bytesOf(s) {
			t.Errorf("Put: %q, not %q", text, bytesOf(s))
		}
		got(t, text)
	}
}

// P13.3: no beginning of a schema's bytes is one's, and none is with bytes behind it, or ahead.
func TestBeginnings(t *testing.T) {
	for _, s := range schemas() {
		text := bytesOf(s)
		for n := range len(text) {
			refused(t, text[:n])
		}
		for c := range 256 {
			refused(t, text+string([]byte{byte(c)}))
		}
		refused(t, text+text)
		refused(t, "\x00"+text)
		refused(t, text[1:])
	}
	refused(t, "")
}

// P13.3: each byte turned to each other one, and each bit of each: what comes of it is a schema's bytes, or ErrForm.
func TestTurned(t *testing.T) {
	for _, s := range []api.Schema{example(), mixed(), chain(3), pairOf(bytes)} {
		text := []byte(bytesOf(s))
		for i, was := range text {
			for c := range 256 {
				text[i] = byte(c)
				got(t, string(text))
			}
			text[i] = was
		}
	}
	for _, s := range schemas() {
		text := []byte(bytesOf(s))
		for i := range text {
			for bit := range 8 {
				text[i] ^= 1 << bit
				got(t, string(text))
				text[i] ^= 1 << bit
			}
		}
	}
	// What a turned byte makes another schema of is that; else it is none.
	fine := 0
	for c := range 256 {
		s, e := schema.Get(strings.Replace(exampleBytes, "b", string([]byte{byte(c)}), 1))
		if e == api.OK && s.Tables[1].Name == string([]byte{byte(c)}) {
			fine++
		} else if e != api.ErrForm {
			t.Errorf("a table by the name of sign %d: %v %v", c, s, e)
		}
	}
	if fine != 35 { // of 36 signs, all but the other table's
		t.Errorf("%d of the turned ones are a schema's", fine)
	}
}

// P13.3: a byte left out, or one more, anywhere.
func TestShifted(t *testing.T) {
	for _, s := range schemas() {
		text := bytesOf(s)
		for i := range text {
			got(t, text[:i]+text[i+1:])
			for c := range byte(20) {
				got(t, text[:i]+string([]byte{c})+text[i:])
			}
		}
	}
}

// P13.3: bytes that are well formed, of schemas that may not be.
func TestGetBad(t *testing.T) {
	for _, s := range bad() {
		refused(t, bytesOf(s))
	}
	refused(t, "\x00")
	refused(t, bytesOf(forest(repeated(-1, 13)...)))
	refused(t, bytesOf(forest(repeated(-1, 255)...)))
	for n := 9; n < 256; n++ {
		refused(t, bytesOf(of(wide("a", n, 0))))
	}
	for n := 17; n < 102; n++ {
		refused(t, bytesOf(of(root(strings.Repeat("a", n), col("id", number)))))
		refused(t, bytesOf(of(root("a", col(strings.Repeat("a", n), number)))))
	}
	// Numbers that are one byte less than they should be, modulo 256.
	refused(t, bytesOf(of(root("a", col("id", number)), api.Table{Name: "b", Cols: kid("b", 0).Cols, Ref: 254, Parent: 254})))
}

// P13.3: names that are rows of layer 5, but not of one string.
func TestGetNames(t *testing.T) {
	whole := func(name string) string {
		return "\x01" + name + "\x01" + nameBytes("id") + "\x02\x00" + "\x00\x00\x00"
	}
	if _, e := schema.Get(whole(nameBytes("a"))); e != api.OK {
		t.Fatal(e)
	}
	col := func(name string) string {
		return "\x01" + nameBytes("a") + "\x01" + name + "\x02\x00" + "\x00\x00\x00"
	}
	if _, e := schema.Get(col(nameBytes("id"))); e != api.OK {
		t.Fatal(e)
	}
	for _, name := range []string{
		"\x01\x04\x01a",             // bytes
		"\x01\x00",                  // Null
		"\x01\x01\x01",              // a Bool
		"\x01\x02aaaaaaaa",          // an Int
		"\x01\x03aaaaaaaa",          // a Real
		"\x02\x05\x01a\x05\x01a",    // two strings
		"\x02\x05\x01a\x00",         // a string, and Null
		"\x00",                      // a row of none
		"\x00\x05\x01a",             // likewise, and more
		"\x05\x01a",                 // a value, and no row
		"\x01a",                     // no row
		"\x01\x05\x00",              // empty
		"\x01\x05\x02\xff\xff",      // no letters
		"\x01\x05\x02\u00e9",        // others
		"\x01\x05\x01A",             // likewise
		"\x01\x06\x01a",             // no kind
		"\x09" + "\x05\x01a",        // too many
		"\x01\x05\xffa",             // longer than there is
		"\x01\x05\x02a",             // likewise
		"\x01\x05\x00\x01\x05\x01a", // two names
	} {
		refused(t, whole(name))
		refused(t, col(name))
	}
}

// P13.3: whether a column is Null is 0 or 1, and no other byte.
func TestGetNull(t *testing.T) {
	text := []byte(exampleBytes)
	at := strings.Index(exampleBytes, "of") + 3
	for c := range 256 {
		text[at] = byte(c)
		s, e := schema.Get(string(text))
		if c > 1 {
			refused(t, string(text))
			continue
		}
		tells(t, e, api.OK)
		if s.Tables[1].Cols[1].Null != (c == 1) {
			t.Errorf("Null of %d: %v", c, s)
		}
	}
}

// P13.3: texts that are no schema's, long ones among them, end soon.
func TestGetOthers(t *testing.T) {
	for c := range 256 {
		for _, n := range []int{1, 2, 3, 10, 1000, 1000000} {
			got(t, strings.Repeat(string([]byte{byte(c)}), n))
		}
	}
	got(t, exampleBytes+strings.Repeat("a", 1<<24))
	got(t, "\xff"+strings.Repeat(nameBytes("a")+"\xff"+strings.Repeat(nameBytes("a")+"\x02\x00", 255)+"\x00\x00\x00", 255))
}
