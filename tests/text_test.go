package tests

import (
	"slices"
	"strings"
	"testing"
	"unsafe"

	"loop.example/g00207/impl"
)

// oddTexts are no valid UTF-8, or runes of more than a byte, or bytes that nobody sees.
var oddTexts = []string{
	"\x00", "\n", "\r\n", "\x1f", "\x7f", "\x80", "\xff", "a\xffb", "\xc3", "\xc3\x28", "\xed\xa0\x80",
	"\u00e9", "\u017f", "\u212a", "\u0663", "\uff21", "\ufffd", "\"\xff\"", "\"\u00e9\"", "a,\x80,b", "1\x80", "\x801",
}

// textsOf tells all texts of at most most bytes out of an alphabet.
func textsOf(alphabet string, most int) []string {
	all := []string{""}
	for from, long := 0, 0; long < most; long++ {
		end := len(all)
		for _, s := range all[from:end] {
			for i := range len(alphabet) {
				all = append(all, s+alphabet[i:i+1])
			}
		}
		from = end
	}
	return all
}

func TestTokenOkOfEachByte(t *testing.T) {
	const right = "abcdefghijklmnopqrstuvwxyzABCDEFGHIJKLMNOPQRSTUVWXYZ0123456789!#$%&'*+-.^_|~\x60"
	for b := range 256 {
		s := string([]byte{byte(b)})
		want := strings.IndexByte(right, byte(b)) >= 0
		for _, text := range []string{s, "a" + s, s + "a", "a" + s + "a"} {
			if impl.TokenOk(text) != want {
				t.Errorf("TokenOk(%q) is not %v", text, want)
			}
		}
	}
}

func TestTokenOkByLength(t *testing.T) {
	for n, want := range map[int]bool{0: false, 1: true, 63: true, 64: true, 65: false, 1000: false} {
		if impl.TokenOk(strings.Repeat("x", n)) != want {
			t.Errorf("TokenOk of %d bytes is not %v", n, want)
		}
	}
	// 64 bytes, not 64 runes, and none of them a letter.
	if impl.TokenOk(strings.Repeat("\u00e9", 32)) || impl.TokenOk(strings.Repeat("\xff", 64)) {
		t.Error("TokenOk takes bytes above 127")
	}
	for _, s := range oddTexts {
		if impl.TokenOk(s) {
			t.Errorf("TokenOk(%q)", s)
		}
	}
}

func TestVisibleOkOfEachByte(t *testing.T) {
	for b := range 256 {
		s := string([]byte{byte(b)})
		want := b == 9 || b >= 32 && b <= 126
		for _, text := range []string{s, "a" + s, s + "a", "a" + s + "a"} {
			if impl.VisibleOk(text) != want {
				t.Errorf("VisibleOk(%q) is not %v", text, want)
			}
		}
	}
}

func TestVisibleOkByLength(t *testing.T) {
	if impl.MaxValue != 400 {
		t.Fatal(impl.MaxValue)
	}
	for n, want := range map[int]bool{0: true, 1: true, 399: true, 400: true, 401: false, 5000: false} {
		if impl.VisibleOk(strings.Repeat(" ", n)) != want {
			t.Errorf("VisibleOk of %d bytes is not %v", n, want)
		}
	}
	for _, s := range oddTexts {
		if impl.VisibleOk(s) {
			t.Errorf("VisibleOk(%q)", s)
		}
	}
}

func TestLower(t *testing.T) {
	for b := range 256 {
		want := byte(b)
		if b >= 65 && b <= 90 {
			want += 32
		}
		if got := impl.Lower(string([]byte{'Q', byte(b), 'Z'})); got != string([]byte{'q', want, 'z'}) {
			t.Errorf("Lower with byte %d: %q", b, got)
		}
	}
	for in, want := range map[string]string{
		"":                         "",
		"ABCXYZabcxyz019@[`{":      "abcxyzabcxyz019@[`{",
		"\u00c9\xffA\xc3":          "\u00c9\xffa\xc3",
		"\u212aA\u017f":            "\u212aa\u017f",
		"\xc3A\xe2\x84B":           "\xc3a\xe2\x84b",
		strings.Repeat("Ab", 3000): strings.Repeat("ab", 3000),
	} {
		if got := impl.Lower(in); got != want {
			t.Errorf("Lower(%q): %q", in, got)
		}
	}
}

func TestTrimmed(t *testing.T) {
	for in, want := range map[string]string{
		"":               "",
		" ":              "",
		"\t \t":          "",
		"a":              "a",
		" a b ":          "a b",
		"\t a\t b \t":    "a\t b",
		"\n a\r":         "\n a\r",
		" \v\f ":         "\v\f",
		"\u00a0a\u2003":  "\u00a0a\u2003",
		" \xff ":         "\xff",
		"\t\x80 \xc3 \t": "\x80 \xc3",
		strings.Repeat(" ", 900) + "x" + strings.Repeat("\t", 900): "x",
	} {
		if got := impl.Trimmed(in); got != want {
			t.Errorf("Trimmed(%q): %q", in, got)
		}
	}
	for _, s := range textsOf("a \t\xff", 6) {
		got := impl.Trimmed(s)
		if impl.Trimmed(got) != got || got != strings.Trim(s, " \t") {
			t.Errorf("Trimmed(%q): %q", s, got)
		}
	}
}

func TestQuoted(t *testing.T) {
	for in, want := range map[string]string{
		"":                        `""`,
		"x y":                     `"x y"`,
		"\"":                      `"\""`,
		"\\":                      `"\\"`,
		"a\"b\\c":                 `"a\"b\\c"`,
		"\t,":                     "\"\t,\"",
		strings.Repeat("x", 400):  `"` + strings.Repeat("x", 400) + `"`,
		strings.Repeat("\"", 400): `"` + strings.Repeat(`\"`, 400) + `"`,
		strings.Repeat("x", 401):  "",
	} {
		if got := impl.Quoted(in); got != want {
			t.Errorf("Quoted(%q): %q", in, got)
		}
	}
	for _, s := range oddTexts {
		if got := impl.Quoted(s); got != "" {
			t.Errorf("Quoted(%q): %q", s, got)
		}
	}
}

func TestUnquoted(t *testing.T) {
	for in, want := range map[string]string{
		`""`:                                  "",
		`"x y"`:                               "x y",
		`"\""`:                                "\"",
		`"\\"`:                                "\\",
		`"a\"b\\c"`:                           "a\"b\\c",
		"\"\t,\"":                             "\t,",
		"\" inner \"":                         " inner ",
		`"` + strings.Repeat("x", 400) + `"`:  strings.Repeat("x", 400),
		`"` + strings.Repeat(`\\`, 400) + `"`: strings.Repeat("\\", 400),
	} {
		if got, is := impl.Unquoted(in); !is || got != want {
			t.Errorf("Unquoted(%q): %q, %v", in, got, is)
		}
	}
	wrong := []string{
		"", `"`, "a", "ab", `"a`, `a"`, `a"b"`, `"a"b`, `"a" `, ` "a"`, `""""`, `"a""`, `"\"`, `"\`, `"a\`, `"\a"`, `"\ "`, `"\\\"`, "'a'",
		"\"\x00\"", "\"\x7f\"", "\"\x80\"", "\"a\nb\"", "\"\\\x80\"", "\"a\"\xff",
		`"` + strings.Repeat("x", 401) + `"`,
		`"` + strings.Repeat(`\\`, 401) + `"`,
	}
	for _, in := range append(wrong, oddTexts...) {
		if got, is := impl.Unquoted(in); is || got != "" {
			t.Errorf("Unquoted(%q): %q, %v", in, got, is)
		}
	}
}

func TestUnquotedOfQuoted(t *testing.T) {
	for b := range 256 {
		s := "a" + string([]byte{byte(b)})
		if got, is := impl.Unquoted(impl.Quoted(s)); is != impl.VisibleOk(s) || is && got != s {
			t.Errorf("Unquoted of Quoted(%q): %q, %v", s, got, is)
		}
	}
	made := map[string]string{}
	for _, s := range textsOf("a\"\\", 5) {
		made[impl.Quoted(s)] = s
	}
	for _, s := range textsOf("a\"\\", 7) {
		want, there := made[s]
		if got, is := impl.Unquoted(s); is != there || got != want {
			t.Errorf("Unquoted(%q): %q, %v", s, got, is)
		}
	}
}

func TestItems(t *testing.T) {
	for in, want := range map[string][]string{
		"":                nil,
		",":               nil,
		" ,\t, ":          nil,
		"a":               {"a"},
		" a b\t":          {"a b"},
		"a,b,c":           {"a", "b", "c"},
		",a,, b ,":        {"a", "b"},
		"a,a":             {"a", "a"},
		`"b,c",d`:         {`"b,c"`, "d"},
		`x="b,c" y,d`:     {`x="b,c" y`, "d"},
		`"a\",b",c`:       {`"a\",b"`, "c"},
		`"a\\",b`:         {`"a\\"`, "b"},
		`"a\\\",b",c`:     {`"a\\\",b"`, "c"},
		`"a\,",b`:         {`"a\,"`, "b"},
		`a\,b`:            {`a\`, "b"},
		`a\",b",c`:        {`a\",b"`, "c"},
		`a,"b,c`:          {"a", `"b,c`},
		`"a,b `:           {`"a,b`},
		`"a,b\`:           {`"a,b\`},
		`a,b\`:            {"a", `b\`},
		`a,"`:             {"a", `"`},
		`"" , ""`:         {`""`, `""`},
		`"a""b,c",d`:      {`"a""b,c"`, "d"},
		`" , "`:           {`" , "`},
		"a;b = c, d":      {"a;b = c", "d"},
		"a,\x80":          nil,
		"a,b\n":           nil,
		"\x7f,b":          nil,
		"\u00e9,b":        nil,
		"a,\"\xff\",b":    nil,
		"a,\"\\\x00\",b ": nil,
	} {
		if got := impl.Items(in); !slices.Equal(got, want) {
			t.Errorf("Items(%q): %q", in, got)
		}
	}
	full := impl.Items(strings.Repeat("a,", 200))
	if len(full) != 200 || full[0] != "a" || full[199] != "a" {
		t.Errorf("Items of 400 bytes: %q", full)
	}
	if got := impl.Items(strings.Repeat("a,", 200) + "a"); len(got) != 0 {
		t.Errorf("Items of 401 bytes: %q", got)
	}
	for _, s := range oddTexts {
		if got := impl.Items(s); len(got) != 0 {
			t.Errorf("Items(%q): %q", s, got)
		}
	}
}

// plainItems tells Items of a visible text once more, by flags.
func plainItems(s string) []string {
	var items []string
	part, open, along := "", false, false
	for i := range len(s) + 1 {
		if i == len(s) || s[i] == ',' && !open {
			if part = strings.Trim(part, " \t"); part != "" {
				items = append(items, part)
			}
			part = ""
			continue
		}
		part += s[i : i+1]
		switch {
		case along:
			along = false
		case open && s[i] == '\\':
			along = true
		case s[i] == '"':
			open = !open
		}
	}
	return items
}

func TestItemsOfAllShortTexts(t *testing.T) {
	for _, s := range textsOf("a,\"\\ ", 7) {
		if got, want := impl.Items(s), plainItems(s); !slices.Equal(got, want) {
			t.Errorf("Items(%q): %q, not %q", s, got, want)
		}
	}
}

func TestDigits(t *testing.T) {
	for in, want := range map[string]int64{
		"0":               0,
		"7":               7,
		"10":              10,
		"007":             7,
		"0123456789":      123456789,
		"000000000000000": 0,
		"000000000000001": 1,
		"999999999999999": 999999999999999,
		"123456789012345": 123456789012345,
	} {
		if got, is := impl.Digits(in); !is || got != want {
			t.Errorf("Digits(%q): %d, %v", in, got, is)
		}
	}
	wrong := []string{
		"", " ", "-", "-1", "+1", "-0", " 1", "1 ", "1.0", "1_0", "0x1", "a", "f", "1a", "1,2", "1e3", "1\n", "\x001",
		"0000000000000000", "1234567890123456", "0000000000000001", strings.Repeat("9", 400), "\uff19", "\uff11\uff12", "\u0663",
	}
	for _, in := range append(wrong, oddTexts...) {
		if got, is := impl.Digits(in); is || got != 0 {
			t.Errorf("Digits(%q): %d, %v", in, got, is)
		}
	}
	for b := range 256 {
		want := b >= '0' && b <= '9'
		got, is := impl.Digits(string([]byte{'1', byte(b)}))
		if is != want || is && got != 10+int64(b)-'0' || !is && got != 0 {
			t.Errorf("Digits of 1 and byte %d: %d, %v", b, got, is)
		}
	}
}

func TestHex(t *testing.T) {
	for n, want := range map[int64]string{
		0:            "0",
		1:            "1",
		9:            "9",
		10:           "a",
		15:           "f",
		16:           "10",
		255:          "ff",
		0xabcdef:     "abcdef",
		0x1234567890: "1234567890",
		1<<52 - 1:    "fffffffffffff",
		1 << 52:      "10000000000000",
		1<<52 + 1:    "",
		1<<63 - 1:    "",
		-1:           "",
		-255:         "",
		-1 << 63:     "",
	} {
		if got := impl.Hex(n); got != want {
			t.Errorf("Hex(%d): %q", n, got)
		}
	}
}

func TestHexDigits(t *testing.T) {
	for in, want := range map[string]int64{
		"0":             0,
		"a":             10,
		"F":             15,
		"0fF":           255,
		"abcdef":        0xabcdef,
		"ABCDEF":        0xabcdef,
		"0123456789":    0x123456789,
		"0000000000000": 0,
		"0000000000001": 1,
		"fffffffffffff": 1<<52 - 1,
		"FFFFFFFFFFFFF": 1<<52 - 1,
		"1000000000000": 1 << 48,
	} {
		if got, is := impl.HexDigits(in); !is || got != want {
			t.Errorf("HexDigits(%q): %d, %v", in, got, is)
		}
	}
	wrong := []string{
		"", " ", "-1", "+1", "-f", " f", "f ", "0x1", "0X1", "g", "G", "1_0", "f\n", "\x00f",
		"00000000000000", "00000000000001", "10000000000000", "ffffffffffffff", strings.Repeat("f", 400), "\uff41",
	}
	for _, in := range append(wrong, oddTexts...) {
		if got, is := impl.HexDigits(in); is || got != 0 {
			t.Errorf("HexDigits(%q): %d, %v", in, got, is)
		}
	}
	for b := range 256 {
		at := strings.IndexByte("0123456789abcdef0123456789ABCDEF", byte(b))
		got, is := impl.HexDigits(string([]byte{'1', byte(b)}))
		if is != (at >= 0) || is && got != 16+int64(at%16) || !is && got != 0 {
			t.Errorf("HexDigits of 1 and byte %d: %d, %v", b, got, is)
		}
	}
}

// HexDigits takes no more than 13 digits, so of what Hex tells it reads all but 2^52, which has 14.
func TestHexDigitsOfHex(t *testing.T) {
	numbers := []int64{0, 1, 1<<52 - 1}
	for n := int64(1); n < 1<<52; n = n*3 + 1 {
		numbers = append(numbers, n)
	}
	for k := range 52 {
		numbers = append(numbers, 1<<k, 1<<k-1)
	}
	for _, n := range numbers {
		if got, is := impl.HexDigits(impl.Hex(n)); !is || got != n {
			t.Errorf("HexDigits of Hex(%d): %d, %v", n, got, is)
		}
		if got, is := impl.HexDigits(strings.ToUpper(impl.Hex(n))); !is || got != n {
			t.Errorf("HexDigits of Hex(%d) in capitals: %d, %v", n, got, is)
		}
	}
}

func sharesMemory(a, b string) bool {
	if a == "" || b == "" {
		return false
	}
	fromA, fromB := uintptr(unsafe.Pointer(unsafe.StringData(a))), uintptr(unsafe.Pointer(unsafe.StringData(b)))
	return fromA < fromB+uintptr(len(b)) && fromB < fromA+uintptr(len(a))
}

func TestTextAnswersAreNewMemory(t *testing.T) {
	for _, s := range []string{"plain", " a , b ", `"quoted"`, "UP", "\"a,b\",c"} {
		s = strings.Clone(s)
		unquoted, _ := impl.Unquoted(s)
		answers := append(impl.Items(s), impl.Lower(s), impl.Trimmed(s), impl.Quoted(s), unquoted)
		for i, answer := range answers {
			if sharesMemory(answer, s) {
				t.Errorf("answer %d of %q shares its memory", i, s)
			}
		}
		again := impl.Items(s)
		first := impl.Items(s)
		for i := range first {
			first[i] = "other"
		}
		if !slices.Equal(again, impl.Items(s)) {
			t.Errorf("Items(%q) hang on what became of an earlier answer", s)
		}
	}
}

func TestTextFunctionsAnswerAtEveryText(t *testing.T) {
	texts := append(textsOf("\x00\t ,\"\\1F\x7f\x80\xff", 3), oddTexts...)
	texts = append(texts, strings.Repeat("\"", 100001), strings.Repeat("\\", 100000), strings.Repeat("\xff", 100000))
	for _, s := range texts {
		before := strings.Clone(s)
		tell := func() []string {
			u, isU := impl.Unquoted(s)
			d, isD := impl.Digits(s)
			h, isH := impl.HexDigits(s)
			if !isU && u != "" || !isD && d != 0 || !isH && h != 0 {
				t.Errorf("%q: a value beside false", s)
			}
			return append(impl.Items(s), impl.Lower(s), impl.Trimmed(s), impl.Quoted(s), u)
		}
		if !slices.Equal(tell(), tell()) || s != before || impl.TokenOk(s) && !impl.VisibleOk(s) {
			t.Errorf("%q: not the same answer twice", s)
		}
	}
}
