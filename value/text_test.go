package value_test

import (
	"fmt"
	"strings"
	"testing"

	"windrose/api"
	"windrose/value"
)

// wantText is the chapter's word on texts.
func wantText(v api.Value) string {
	if len(v) == 0 {
		return "-"
	}
	var texts []string
	for _, word := range v {
		texts = append(texts, fmt.Sprintf("%x", word))
	}
	return strings.Join(texts, ",")
}

// P4.3, P4.5: each value's text, which no other has, and of which it is read.
func TestTextAndRead(t *testing.T) {
	met := map[string]api.Value{}
	for _, v := range some() {
		s, e := value.Text(v)
		if e != api.OK || s != wantText(v) {
			t.Errorf("Text(%x) = %q, %d, not %q", v, s, e, wantText(v))
		}
		if other, there := met[s]; there && !isSame(v, other) {
			t.Errorf("%x and %x are both %q", v, other, s)
		}
		met[s] = v
		if got, e := value.Read(s); e != api.OK || !isSame(got, v) {
			t.Errorf("Read(%q) = %x, %d, not %x", s, got, e, v)
		}
	}
}

// P4.3: texts as the chapter writes them.
func TestTextSpelled(t *testing.T) {
	for s, v := range map[string]api.Value{
		"-":                    nil,
		"0":                    val(0),
		"9":                    val(9),
		"a":                    val(10),
		"f":                    val(15),
		"10":                   val(16),
		"1,ff":                 val(1, 255),
		"0,0":                  val(0, 0),
		"0,0,0,0":              val(0, 0, 0, 0),
		"a,b,c,d":              val(10, 11, 12, 13),
		"e,f,0":                val(14, 15, 0),
		"ffffffffffffffff":     val(greatest),
		"8000000000000000":     val(1 << 63),
		"7fffffffffffffff,1":   val(1<<63-1, 1),
		"123456789abcdef0":     val(0x123456789abcdef0),
		"fedcba987654321,0":    val(0xfedcba987654321, 0),
		"1000000000000000,100": val(1<<60, 256),
		"ffffffffffffffff,ffffffffffffffff,ffffffffffffffff,ffffffffffffffff": val(greatest, greatest, greatest, greatest),
	} {
		if got, e := value.Text(v); e != api.OK || got != s {
			t.Errorf("Text(%x) = %q, %d, not %q", v, got, e, s)
		}
		if got, e := value.Read(s); e != api.OK || !isSame(got, v) {
			t.Errorf("Read(%q) = %x, %d, not %x", s, got, e, v)
		}
	}
}

// P4.3: what is no value has no text.
func TestTextTooLong(t *testing.T) {
	for _, v := range tooLong() {
		if s, e := value.Text(v); e != api.ErrValue || s != "" {
			t.Errorf("Text of %d words = %q, %d", len(v), s, e)
		}
	}
}

// P4.3: what is no value's text.
func TestReadRefuses(t *testing.T) {
	for _, s := range []string{
		"", " ", ",", ",,", "--", "-,", ",-", "-,-", "-,1", "1,-", "- ", " -", "-\x00", "−", "–",
		"00", "01", "000", "0f", "00,1", "1,00", "1,01", "0,0,0,00", "0000000000000001", "00000000000000001", "1,0000000000000000ff",
		"A", "F", "FF", "fF", "Ff", "1,FF", "aB", "DEAD",
		",1", "1,", "1,,2", ",,1", "1,,", ",1,", "1,2,", ",1,2", "1,2,3,", "1,2,3,4,", ",1,2,3,4", "1,2,,3,4", "1,2,,4", ",,,", ",,,,",
		"1,2,3,4,5", "0,0,0,0,0", "1,2,3,4,-", "1,2,3,4,x", "1,2,3,4,5,6", "-,-,-,-",
		"10000000000000000", "fffffffffffffffff", "1,10000000000000000", "ffffffffffffffff0", "1ffffffffffffffff", "0,0,0,10000000000000000",
		"-1", "+1", "1-", "1,-2", "1,+2", "0x1", "0xff", "x1", "1x", "ffh", "#ff", "$f", "g", "1g", "z", "`", "1:2", "1;2", "1.2", "1/2", "1_0", "1e+5", "@", "/", ":",
		" 1", "1 ", "1 2", "1, 2", "1 ,2", "1,2 ", "1\n", "\n1", "1,2\n", "1\t", "\x001", "1\x00", "1\x002", "1,\x00",
		"１", "٣", "ａ", "1，2", "é", "1é", "а", "ⅰ",
		"\xff", "1\xff", "\xff1", "1,\xff", "\xff,1", "1\x80", "\xc31", "1\xf0,2", "\xef\xbb\xbf1",
		"ok", "none", "nil", "1,ff,", "[1]", "(1)", "\"1\"",
		strings.Repeat("0", 100), strings.Repeat("f", 100), strings.Repeat("1,", 100), strings.Repeat(",", 100), strings.Repeat("1,", 100) + "1", strings.Repeat("-", 100),
		strings.Repeat("0", 1000000) + "1", strings.Repeat("1,", 1000000) + "1",
	} {
		if v, e := value.Read(s); e != api.ErrValue || len(v) != 0 {
			t.Errorf("Read(%.60q) = %x, %d", s, v, e)
		}
	}
}

// P4.3: every single byte, alone and at each place of a text.
func TestReadBytes(t *testing.T) {
	for b := range 256 {
		sign := string([]byte{byte(b)})
		digit := strings.Contains("0123456789abcdef", sign)
		for s, want := range map[string]bool{
			sign:             digit || sign == "-",
			sign + "1":       digit && sign != "0",
			"1" + sign:       digit,
			"1" + sign + "1": digit || sign == ",",
			"1," + sign:      digit,
			sign + ",1":      digit,
			"c1," + sign:     digit,
		} {
			if _, e := value.Read(s); (e == api.OK) != want {
				t.Errorf("Read(%q): %d", s, e)
			}
		}
	}
}

// P4.3, P4.5: of all short texts, just those of values are read, each as the value whose text it is.
func TestReadShortTexts(t *testing.T) {
	const signs = "019afFg,- \xff"
	const longest = 5
	read := 0
	var try func(s string)
	try = func(s string) {
		v, e := value.Read(s)
		if e == api.OK {
			read++
			if text, e := value.Text(v); e != api.OK || text != s {
				t.Errorf("Read(%q) = %x, whose text is %q, %d", s, v, text, e)
			}
		} else if e != api.ErrValue || len(v) != 0 {
			t.Errorf("Read(%q) = %x, %d", s, v, e)
		}
		if len(s) == longest {
			return
		}
		for at := range len(signs) {
			try(s + signs[at:at+1])
		}
	}
	try("")
	if want := 1 + countTexts(longest, api.MaxWidth); read != want {
		t.Errorf("%d short texts are values', not %d", read, want)
	}
}

// countTexts is how many texts of at most that many signs, and words, there are, of the digits 0, 1, 9, a, f.
func countTexts(signs, words int) int {
	if words == 0 {
		return 0
	}
	count := 0
	for long, ways := 1, 5; long <= signs; long++ {
		if long == 2 {
			ways = 4 * 5
		} else if long > 2 {
			ways *= 5
		}
		count += ways * (1 + countTexts(signs-long-1, words-1))
	}
	return count
}

// P4.5: whatever is read has the text that it was read of.
func FuzzRead(f *testing.F) {
	for _, s := range []string{"-", "0", "1,ff", "ffffffffffffffff", "01", "1,", "FF", "1,2,3,4", "1,2,3,4,5"} {
		f.Add(s)
	}
	f.Fuzz(func(t *testing.T, s string) {
		v, e := value.Read(s)
		if e == api.ErrValue && len(v) == 0 {
			return
		}
		if text, e2 := value.Text(v); e != api.OK || e2 != api.OK || text != s || value.Check(v) != api.OK {
			t.Errorf("Read(%q) = %x, %d, whose text is %q, %d", s, v, e, text, e2)
		}
	})
}
