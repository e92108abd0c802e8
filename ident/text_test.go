package ident_test

import (
	"fmt"
	"strings"
	"testing"

	"windrose/api"
	"windrose/ident"
)

// wantText is the chapter's word on texts.
func wantText(k known) string {
	star := func(n int) string {
		if n == 0 {
			return "*"
		}
		return fmt.Sprint(n)
	}
	switch k.kind {
	case api.IdEntity:
		return fmt.Sprintf("e%d.%d", k.first, k.second)
	case api.IdComponent:
		return fmt.Sprintf("c%d", k.first)
	}
	return "p" + star(k.first) + ":" + star(k.second)
}

// P1.4, P1.5: each id's text, which no other has, and of which it is read.
func TestTextAndRead(t *testing.T) {
	met := map[string]api.Id{}
	for _, k := range all() {
		s, e := ident.Text(k.id)
		if e != api.OK || s != wantText(k) {
			t.Errorf("Text(%#x) = %q, %d, not %q", uint64(k.id), s, e, wantText(k))
		}
		if other, ok := met[s]; ok {
			t.Errorf("%#x and %#x are both %q", uint64(k.id), uint64(other), s)
		}
		met[s] = k.id
		if id, e := ident.Read(s); e != api.OK || id != k.id {
			t.Errorf("Read(%q) = %#x, %d, not %#x", s, uint64(id), e, uint64(k.id))
		}
	}
}

// P1.4: texts as the chapter writes them.
func TestTextSpelled(t *testing.T) {
	for _, c := range []struct {
		id   api.Id
		text string
	}{
		{entityBits(5, 2), "e5.2"},
		{entityBits(1, 0), "e1.0"},
		{entityBits(api.MaxIndex, api.MaxGen), "e1048578.7"},
		{componentBits(1), "c1"},
		{componentBits(api.MaxComponent), "c24"},
		{pairBits(2, 7), "p2:7"},
		{pairBits(api.MaxIndex, api.MaxIndex), "p1048578:1048578"},
		{pairBits(0, 7), "p*:7"},
		{pairBits(2, 0), "p2:*"},
		{pairBits(0, 0), "p*:*"},
	} {
		if s, e := ident.Text(c.id); e != api.OK || s != c.text {
			t.Errorf("Text(%#x) = %q, %d, not %q", uint64(c.id), s, e, c.text)
		}
		if id, e := ident.Read(c.text); e != api.OK || id != c.id {
			t.Errorf("Read(%q) = %#x, %d, not %#x", c.text, uint64(id), e, uint64(c.id))
		}
	}
}

// P1.4: what is of no kind has no text.
func TestTextOfNone(t *testing.T) {
	for _, id := range none() {
		if s, e := ident.Text(id); e != api.ErrId || s != "" {
			t.Errorf("Text(%#x) = %q, %d", uint64(id), s, e)
		}
	}
}

// P1.4: what is no id's text.
func TestReadRefuses(t *testing.T) {
	long := strings.Repeat("9", 100)
	for _, s := range []string{
		"", " ", "e", "c", "p", ".", ":", "*", "5", "5.2", "2:7", "x5", "E5.2", "C3", "P2:7", "é5.2", "ｅ5.2",
		"e5", "e5.", "e.2", "e.", "e05.2", "e00.0", "e5.02", "e5.00", "e0.0", "e0.2", "e5.8", "e5.10", "e1048579.0",
		"e5:2", "e5.2.1", "e5..2", "e5.2.", "e*.2", "e5.*", "e-5.2", "e+5.2", "e5.-2", "e5.+2", "e5,2", "e5.2 ", " e5.2", "e 5.2", "e5 .2", "e5. 2", "ee5.2", "e5.2e", "e5.2\n", "e5.2\x00", "\x00e5.2", "e5\x00.2", "e0x5.2", "e5e0.2", "e1_0.2",
		"c0", "c25", "c03", "c24.0", "c3:0", "c3.", "c3:", "c*", "c-1", "c+1", "c3 ", "c3.0", "cc3", "c3*", "c*3", "c\x003",
		"p2", "p2:", "p:7", "p:", "p0:7", "p2:0", "p0:0", "p0:*", "p*:0", "p02:7", "p2:07", "p2.7", "p*.*", "p**:7", "p*2:7", "p2*:7", "p2:*7", "p2:7*", "p2:**", "p2:7:", "p2:7:1", "p2::7", "p:2:7", "p*", "p*:", "p:*", "p1048579:1", "p1:1048579", "p-1:7", "p2:-7", "p2: 7", "p٢:7", "p２:7", "p2：7",
		"p18446744073709551617:1", "e18446744073709551617.1", "c18446744073709551617", "p4294967297:1", "p1:9223372036854775809", "e5.18446744073709551618",
		"e" + long + ".0", "e1." + long, "c" + long, "p" + long + ":1", "p1:" + long, "e" + strings.Repeat("0", 100) + "5.2", "p" + strings.Repeat("*", 100) + ":1",
		"\xff", "e\xff5.2", "e5.2\xff", "\xffe5.2", "e5\xc3.2", "c3\x80", "p2:\xf07",
	} {
		if id, e := ident.Read(s); e != api.ErrId || id != 0 {
			t.Errorf("Read(%q) = %#x, %d", s, uint64(id), e)
		}
	}
}

// P1.4: of all short texts, just those of ids are read, each as the id whose text it is.
func TestReadShortTexts(t *testing.T) {
	const letters = "ecp012578.:* \xff"
	const longest = 5
	read := 0
	var try func(s string)
	try = func(s string) {
		id, e := ident.Read(s)
		if e == api.OK {
			read++
			if text, e := ident.Text(id); e != api.OK || text != s {
				t.Errorf("Read(%q) = %#x, whose text is %q, %d", s, uint64(id), text, e)
			}
		} else if e != api.ErrId || id != 0 {
			t.Errorf("Read(%q) = %#x, %d", s, uint64(id), e)
		}
		if len(s) == longest {
			return
		}
		for i := range len(letters) {
			try(s + letters[i:i+1])
		}
	}
	try("")
	// The digits are 0, 1, 2, 5, 7, 8: 5 numbers of one digit, 30 of two.
	entities := (5 + 30) * 5   // the generations 0, 1, 2, 5, 7
	components := 5 + 6 + 3    // 10 to 18, 20 to 22
	pairs := 6*6 + 30*6 + 6*30 // 5 numbers, or any
	if want := entities + components + pairs; read != want {
		t.Errorf("%d short texts are ids', not %d", read, want)
	}
}

// P1.5: whatever is read has the text that it was read of, and the other way round.
func FuzzRead(f *testing.F) {
	for _, s := range []string{"e5.2", "c3", "p2:7", "p*:*", "e05.2", "p0:1"} {
		f.Add(s)
	}
	f.Fuzz(func(t *testing.T, s string) {
		id, e := ident.Read(s)
		if e == api.ErrId && id == 0 {
			return
		}
		if text, e2 := ident.Text(id); e != api.OK || e2 != api.OK || text != s {
			t.Errorf("Read(%q) = %#x, %d, whose text is %q, %d", s, uint64(id), e, text, e2)
		}
	})
}
