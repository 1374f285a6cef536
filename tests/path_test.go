package tests

import (
	"bytes"
	"math/rand"
	"slices"
	"strings"
	"testing"

	"loop.example/g00207/impl"
)

const plainInPath = "abcdefghijklmnopqrstuvwxyzABCDEFGHIJKLMNOPQRSTUVWXYZ0123456789-._~/:@!$&'()*+,;="

// mixedTexts are texts of all bytes, with many of those that paths, codes and queries hang on; the same in each run.
func mixedTexts(count, most int) []string {
	source := rand.New(rand.NewSource(3))
	const often = "//...%%2eEfF0aA&&==?"
	texts := make([]string, count)
	for i := range texts {
		text := make([]byte, source.Intn(most+1))
		for at := range text {
			text[at] = byte(source.Intn(256))
			if source.Intn(3) > 0 {
				text[at] = often[source.Intn(len(often))]
			}
		}
		texts[i] = string(text)
	}
	return texts
}

// hugeTexts are far above each limit.
func hugeTexts() []string {
	var texts []string
	for _, s := range []string{"/", "/.", "/..", "%", "%41", "a", "&", "b&a&", "?", "/?", " ", "\x00", "\xff"} {
		texts = append(texts, strings.Repeat(s, 50000), "/"+strings.Repeat(s, 50000))
	}
	return texts
}

func TestMaxPath(t *testing.T) {
	if impl.MaxPath != 200 {
		t.Fatal(impl.MaxPath)
	}
}

func TestCodedOfEachByte(t *testing.T) {
	const capitals = "0123456789ABCDEF"
	for b := range 256 {
		s := string([]byte{byte(b)})
		want := s
		if strings.IndexByte(plainInPath, byte(b)) < 0 {
			want = "%" + capitals[b/16:b/16+1] + capitals[b%16:b%16+1]
		}
		for _, text := range [][2]string{{s, want}, {"a" + s, "a" + want}, {s + "/", want + "/"}, {s + s, want + want}} {
			if got := impl.Coded(text[0]); got != text[1] {
				t.Errorf("Coded(%q): %q, not %q", text[0], got, text[1])
			}
		}
	}
}

func TestCoded(t *testing.T) {
	for in, want := range map[string]string{
		"":             "",
		"/":            "/",
		"no path":      "no%20path",
		"/a b%":        "/a%20b%25",
		"%41":          "%2541",
		"/a?b=c&d#e":   "/a%3Fb=c&d%23e",
		"[\"\\]^`{|}<": "%5B%22%5C%5D%5E%60%7B%7C%7D%3C",
		"\x00\x0a\x7f": "%00%0A%7F",
		"\u00e9\xff":   "%C3%A9%FF",
		plainInPath:    plainInPath,
	} {
		if got := impl.Coded(in); got != want {
			t.Errorf("Coded(%q): %q, not %q", in, got, want)
		}
	}
}

func TestCodedByLength(t *testing.T) {
	for in, want := range map[string]string{
		strings.Repeat("a", 199):        strings.Repeat("a", 199),
		strings.Repeat("a", 200):        strings.Repeat("a", 200),
		strings.Repeat("a", 201):        "",
		"/" + strings.Repeat("a", 199):  "/" + strings.Repeat("a", 199),
		"/" + strings.Repeat("a", 200):  "",
		strings.Repeat(" ", 67):         strings.Repeat("%20", 67),
		strings.Repeat("\xff", 200):     strings.Repeat("%FF", 200),
		strings.Repeat("\xff", 201):     "",
		strings.Repeat("\u00e9", 100):   strings.Repeat("%C3%A9", 100),
		strings.Repeat("\u00e9", 101):   "",
		strings.Repeat("%", 200):        strings.Repeat("%25", 200),
		strings.Repeat("%41", 67):       "",
		strings.Repeat("/", 1000000):    "",
		strings.Repeat("\x00", 1000000): "",
	} {
		if got := impl.Coded(in); got != want {
			t.Errorf("Coded of %d bytes %.9q..: %q", len(in), in, got)
		}
	}
}

func TestUncodedOfEachByteByItsCode(t *testing.T) {
	const small, capital = "0123456789abcdef", "0123456789ABCDEF"
	for b := range 256 {
		for size := range 4 {
			digits := []string{small, capital}
			code := "%" + string([]byte{digits[size/2][b/16], digits[size%2][b%16]})
			for _, text := range [][2]string{{"", ""}, {"a", ""}, {"", "a"}, {"/", "41"}, {"%25", "%61"}} {
				want := strings.ReplaceAll(text[0], "%25", "%") + string([]byte{byte(b)}) + strings.ReplaceAll(text[1], "%61", "a")
				if got, is := impl.Uncoded(text[0] + code + text[1]); !is || got != want {
					t.Errorf("Uncoded(%q): %q, %v, not %q", text[0]+code+text[1], got, is, want)
				}
			}
		}
	}
}

func TestUncodedOfEachTwoBytesBehindAPercent(t *testing.T) {
	value := func(b int) int {
		at := strings.IndexByte("0123456789abcdef0123456789ABCDEF", byte(b))
		if at < 0 {
			return -1
		}
		return at % 16
	}
	for b := range 256 {
		for c := range 256 {
			s := string([]byte{'%', byte(b), byte(c)})
			got, is := impl.Uncoded(s)
			right := value(b) >= 0 && value(c) >= 0
			if is != right || !is && got != "" || is && got != string([]byte{byte(16*value(b) + value(c))}) {
				t.Fatalf("Uncoded(%q): %q, %v", s, got, is)
			}
		}
	}
}

func TestUncodedOfEachByteAsItIs(t *testing.T) {
	for b := range 256 {
		s := string([]byte{'a', byte(b)})
		got, is := impl.Uncoded(s)
		if want := b != '%'; is != want || is && got != s || !is && got != "" {
			t.Errorf("Uncoded(%q): %q, %v", s, got, is)
		}
	}
}

func TestUncoded(t *testing.T) {
	for in, want := range map[string]string{
		"":               "",
		"/":              "/",
		"no path":        "no path",
		"%41%2f":         "A/",
		"%2541":          "%41",
		"%25%34%31":      "%41",
		"a+b":            "a+b",
		"%2e%2E":         "..",
		"%00":            "\x00",
		"%c3%a9\xff":     "\u00e9\xff",
		"/x%20y%3Fz?w&v": "/x y?z?w&v",
	} {
		if got, is := impl.Uncoded(in); !is || got != want {
			t.Errorf("Uncoded(%q): %q, %v, not %q", in, got, is, want)
		}
	}
	for _, in := range []string{
		"%", "%4", "a%", "a%4", "/%", "/%4", "%%", "%%%", "%%41", "%4%41", "%41%", "%41%4", "%g1", "%1g", "%G1", "%1G", "%-1", "%+1", "% 1", "%1 ",
		"%0x", "%x0", "%_1", "%1_", "%\x001", "%4\x80", "%\xff\xff", "%\u00e9", "%\uff11", "/a%zz/b", "/a/%/b", "%.1", "/%41/%4/", "%/1", "%1:", "%`a", "%@a",
	} {
		if got, is := impl.Uncoded(in); is || got != "" {
			t.Errorf("Uncoded(%q): %q, %v", in, got, is)
		}
	}
}

// The limit is one of the text that is read, whatever it becomes.
func TestUncodedByLength(t *testing.T) {
	for in, want := range map[string]string{
		strings.Repeat("a", 199):               strings.Repeat("a", 199),
		strings.Repeat("a", 200):               strings.Repeat("a", 200),
		strings.Repeat("%41", 66):              strings.Repeat("A", 66),
		strings.Repeat("%41", 66) + "bc":       strings.Repeat("A", 66) + "bc",
		"bc" + strings.Repeat("%ff", 66):       "bc" + strings.Repeat("\xff", 66),
		strings.Repeat("\xff", 200):            strings.Repeat("\xff", 200),
		"/" + strings.Repeat("a", 196) + "%2e": "/" + strings.Repeat("a", 196) + ".",
	} {
		if got, is := impl.Uncoded(in); !is || got != want {
			t.Errorf("Uncoded of %d bytes %.9q..: %q, %v", len(in), in, got, is)
		}
	}
	for _, in := range []string{
		strings.Repeat("a", 201), strings.Repeat("%41", 67), strings.Repeat("%FF", 200), strings.Repeat("\xff", 201),
		"a" + strings.Repeat("%", 199), strings.Repeat("a", 199) + "%", strings.Repeat("a", 198) + "%4", strings.Repeat("a", 198) + "%41", strings.Repeat("%41", 100000),
	} {
		if got, is := impl.Uncoded(in); is || got != "" {
			t.Errorf("Uncoded of %d bytes %.9q..: %q, %v", len(in), in, got, is)
		}
	}
}

func TestUncodedOfCoded(t *testing.T) {
	texts := append(textsOf("/a %\xff\x00", 5), mixedTexts(20000, 210)...)
	for blanks := 60; blanks <= 70; blanks++ {
		for letters := range 5 {
			texts = append(texts, strings.Repeat("a", letters)+strings.Repeat(" ", blanks))
		}
	}
	short, long := 0, 0
	for _, s := range append(texts, oddTexts...) {
		if len(s) > impl.MaxPath {
			continue
		}
		code := impl.Coded(s)
		got, is := impl.Uncoded(code)
		if len(code) <= impl.MaxPath {
			short++
			if !is || got != s {
				t.Fatalf("Uncoded of Coded(%q): %q, %v", s, got, is)
			}
		} else {
			long++
			if is || got != "" {
				t.Fatalf("Uncoded of Coded(%q), which has %d bytes: %q, %v", s, len(code), got, is)
			}
		}
	}
	if short == 0 || long == 0 {
		t.Errorf("%d codes that are short enough, %d that are not", short, long)
	}
}

func TestDotless(t *testing.T) {
	for in, want := range map[string]string{
		"/":             "/",
		"/a":            "/a",
		"/a/":           "/a/",
		"/a/b":          "/a/b",
		"/a/b/../c":     "/a/c",
		"/a/.":          "/a/",
		"/a/./":         "/a/",
		"/a/..":         "/",
		"/a/../":        "/",
		"/a/b/..":       "/a/",
		"/a/b/../":      "/a/",
		"/a/b/../..":    "/",
		"/a/b/../../":   "/",
		"/a/b/../../c":  "/c",
		"/a/b/../../..": "/",
		"/..":           "/",
		"/.":            "/",
		"/./":           "/",
		"/../":          "/",
		"/../..":        "/",
		"/../../a":      "/a",
		"/./a":          "/a",
		"/../a":         "/a",
		"/a/./b":        "/a/b",
		"/a/./../b":     "/b",
		"/a/.././b":     "/b",
		"/a/../../b":    "/b",
		"/a/../b/../c/": "/c/",
		"//":            "//",
		"//a":           "//a",
		"/a//":          "/a//",
		"/a//b":         "/a//b",
		"///":           "///",
		"//..":          "/",
		"//../a":        "/a",
		"//.":           "//",
		"/a//.":         "/a//",
		"/a//..":        "/a/",
		"/a//../b":      "/a/b",
		"/a//../../b":   "/b",
		"/a//b/..":      "/a//",
		"/.//a":         "//a",
		"/..//a":        "//a",
		"/...":          "/...",
		"/.a":           "/.a",
		"/a.":           "/a.",
		"/..a":          "/..a",
		"/a..":          "/a..",
		"/.../..":       "/",
		"/. /.. ":       "/. /.. ",
		"/%2e/%2E%2e/a": "/%2e/%2E%2e/a",
		"/a/%2e.":       "/a/%2e.",
		"/a?/../b":      "/b",
		"/a?b/.":        "/a?b/",
		"/\x00/../\xff": "/\xff",
		"/\u00e9/./b\n": "/\u00e9/b\n",
	} {
		if got := impl.Dotless(in); got != want {
			t.Errorf("Dotless(%q): %q, not %q", in, got, want)
		}
	}
	wrong := []string{"", ".", "..", "a", "a/b", "./a", "../a", " /a", "%2Fa", "?/a", "\\a", "\x00/a", "*", "http://h/a"}
	for _, in := range append(wrong, oddTexts...) {
		if got := impl.Dotless(in); got != "" {
			t.Errorf("Dotless(%q): %q", in, got)
		}
	}
}

func TestDotlessByLength(t *testing.T) {
	for in, want := range map[string]string{
		"/" + strings.Repeat("a", 199):         "/" + strings.Repeat("a", 199),
		"/" + strings.Repeat("a", 200):         "",
		strings.Repeat("/", 200):               strings.Repeat("/", 200),
		strings.Repeat("/", 201):               "",
		strings.Repeat("/.", 100):              "/",
		strings.Repeat("/.", 100) + "/":        "",
		strings.Repeat("/..", 66) + "/a":       "/a",
		strings.Repeat("/a", 100):              strings.Repeat("/a", 100),
		strings.Repeat("/a/..", 40):            "/",
		strings.Repeat("/a/..", 40) + "/":      "",
		strings.Repeat("/", 198) + "..":        strings.Repeat("/", 197),
		strings.Repeat("/", 199) + "..":        "",
		"/" + strings.Repeat("a", 197) + "/.":  "/" + strings.Repeat("a", 197) + "/",
		"/" + strings.Repeat("a", 197) + "/..": "",
	} {
		if got := impl.Dotless(in); got != want {
			t.Errorf("Dotless of %d bytes %.9q..: %q, not %q", len(in), in, got, want)
		}
	}
}

// plainDotless tells Dotless of a path once more, by what the text that is left begins with.
func plainDotless(s string) string {
	out := ""
	for s != "" {
		switch {
		case strings.HasPrefix(s, "/./"):
			s = s[2:]
		case s == "/.":
			s = "/"
		case strings.HasPrefix(s, "/../"), s == "/..":
			s = "/" + strings.TrimPrefix(s[3:], "/")
			out = out[:max(strings.LastIndex(out, "/"), 0)]
		default:
			end := strings.IndexByte(s[1:], '/') + 1
			if end == 0 {
				end = len(s)
			}
			out, s = out+s[:end], s[end:]
		}
	}
	return out
}

func hasDotPart(s string) bool {
	parts := strings.Split(s, "/")
	return slices.Contains(parts, ".") || slices.Contains(parts, "..")
}

func TestDotlessOfAllShortPaths(t *testing.T) {
	for _, s := range textsOf("/.a", 10) {
		path := "/" + s
		got := impl.Dotless(path)
		if want := plainDotless(path); got != want {
			t.Fatalf("Dotless(%q): %q, not %q", path, got, want)
		}
		if hasDotPart(got) || impl.Dotless(got) != got || len(got) > len(path) {
			t.Fatalf("Dotless(%q): %q, of which it is %q", path, got, impl.Dotless(got))
		}
	}
}

func TestNormalPath(t *testing.T) {
	for in, want := range map[string]string{
		"/":               "/",
		"/a":              "/a",
		"/a/b/../c":       "/a/c",
		"/a/.":            "/a/",
		"/..":             "/",
		"/%61":            "/a",
		"/%7Euser":        "/~user",
		"/a b":            "/a%20b",
		"/a%20b":          "/a%20b",
		"/x/%2e%2e/%61":   "/a",
		"/x/.%2E/a":       "/a",
		"/x/%2e":          "/x/",
		"/x/%2e/":         "/x/",
		"/x%2f..%2Fy":     "/y",
		"/%2f":            "//",
		"/%2f/":           "///",
		"/a%2F%2e":        "/a/",
		"/%252e/x":        "/%252e/x",
		"/%25%32%65":      "/%252e",
		"/%c3%a9":         "/%C3%A9",
		"/\u00e9":         "/%C3%A9",
		"/%00\x00":        "/%00%00",
		"/a?b":            "/a%3Fb",
		"/a%3fb":          "/a%3Fb",
		"/a+b%2Bc":        "/a+b+c",
		"/-._~:@!$&'()*+": "/-._~:@!$&'()*+",
		"/%2d%3b%3d%2C":   "/-;=,",
		"/%5B]":           "/%5B%5D",
		"//a":             "//a",
	} {
		if got, is := impl.NormalPath(in); !is || got != want {
			t.Errorf("NormalPath(%q): %q, %v, not %q", in, got, is, want)
		}
		if got, is := impl.NormalPath(want); !is || got != want {
			t.Errorf("NormalPath(%q): %q, %v, though it is normal", want, got, is)
		}
	}
	wrong := []string{
		"", "a", "a/b", "./a", "../a", " /a", "%2Fa", "%2f", "?", "*", "http://h/a",
		"/%", "/%4", "/a%", "/%g1", "/%1g", "/%%41", "/%zz/..", "/a/%/..", "/%\u00e9", "/%4\x00",
	}
	for _, in := range append(wrong, oddTexts...) {
		if got, is := impl.NormalPath(in); is || got != "" {
			t.Errorf("NormalPath(%q): %q, %v", in, got, is)
		}
	}
}

func TestNormalPathByLength(t *testing.T) {
	for in, want := range map[string]string{
		"/" + strings.Repeat("a", 199):             "/" + strings.Repeat("a", 199),
		"/" + strings.Repeat("%61", 66):            "/" + strings.Repeat("a", 66),
		"/" + strings.Repeat("%ff", 66):            "/" + strings.Repeat("%FF", 66),
		"/" + strings.Repeat("%ff", 66) + "a":      "/" + strings.Repeat("%FF", 66) + "a",
		"/" + strings.Repeat(" ", 66):              "/" + strings.Repeat("%20", 66),
		"/" + strings.Repeat(" ", 66) + "a":        "/" + strings.Repeat("%20", 66) + "a",
		strings.Repeat("/.", 100):                  "/",
		"/" + strings.Repeat(" ", 64) + "/../x":    "/x",
		"/" + strings.Repeat("\u00e9", 33) + "%61": "/" + strings.Repeat("%C3%A9", 33) + "a",
		"/" + strings.Repeat("%2f", 66) + "a":      strings.Repeat("/", 67) + "a",
	} {
		if got, is := impl.NormalPath(in); !is || got != want {
			t.Errorf("NormalPath of %d bytes %.9q..: %q, %v, not %q", len(in), in, got, is, want)
		}
	}
	for _, in := range []string{
		"/" + strings.Repeat("a", 200), strings.Repeat("/", 201), "/" + strings.Repeat("%61", 67), strings.Repeat("/.", 100) + "/", "/" + strings.Repeat("a", 198) + "%",
		// Their code is longer than a path, also where a part of it would go.
		"/" + strings.Repeat(" ", 67), "/" + strings.Repeat(" ", 66) + "ab", "/" + strings.Repeat("\xff", 199),
		"/" + strings.Repeat(" ", 65) + "/../x", "/" + strings.Repeat("\u00e9", 33) + "%61b",
	} {
		if got, is := impl.NormalPath(in); is || got != "" {
			t.Errorf("NormalPath of %d bytes %.9q..: %q, %v", len(in), in, got, is)
		}
	}
}

// What NormalPath tells is a path of plain bytes and codes in capitals alone, without . and .., and normal.
func TestWhatIsNormalIsNormal(t *testing.T) {
	texts := textsOf("/.%2eE a", 6)
	texts = append(texts, mixedTexts(30000, 210)...)
	rights := 0
	for _, s := range texts {
		path := "/" + s
		got, is := impl.NormalPath(path)
		if !is {
			if got != "" {
				t.Fatalf("NormalPath(%q): %q, %v", path, got, is)
			}
			continue
		}
		rights++
		text, told := impl.Uncoded(path)
		if !told || got != plainDotless(impl.Coded(text)) {
			t.Fatalf("NormalPath(%q): %q", path, got)
		}
		again, too := impl.NormalPath(got)
		if !too || again != got || hasDotPart(got) || !strings.HasPrefix(got, "/") || len(got) > impl.MaxPath {
			t.Fatalf("NormalPath(%q): %q, of which it is %q, %v", path, got, again, too)
		}
		if strings.Trim(got, plainInPath+"%") != "" || strings.ContainsAny(got, " ?") {
			t.Fatalf("NormalPath(%q): %q", path, got)
		}
	}
	if rights < 1000 {
		t.Errorf("only %d paths", rights)
	}
}

func TestSortedQuery(t *testing.T) {
	for in, want := range map[string]string{
		"":                  "",
		"&":                 "",
		"&&&":               "",
		"a":                 "a",
		"&a":                "a",
		"a&":                "a",
		"a&b":               "a&b",
		"b&a":               "a&b",
		"b=2&a=1&":          "a=1&b=2",
		"&&b&&a&&":          "a&b",
		"a&a":               "a&a",
		"b&a&b&a":           "a&a&b&b",
		"ab&a":              "a&ab",
		"a=1&a":             "a&a=1",
		"a=2&a=10&a=1":      "a=1&a=10&a=2",
		"b&B&a&A":           "A&B&a&b",
		"z&\xff&~&\x00":     "\x00&z&~&\xff",
		"\u00e9&e&\xc3":     "e&\xc3&\u00e9",
		"\uff5a&\U0001f600": "\uff5a&\U0001f600",
		"\xf0&\xef\xbd\x9a": "\xef\xbd\x9a&\xf0",
		"?b&?a":             "?a&?b",
		"b;a&a,c":           "a,c&b;a",
		" b & a ":           " a & b ",
		"%62&a":             "%62&a",
		"=&a":               "=&a",
	} {
		if got := impl.SortedQuery(in); got != want {
			t.Errorf("SortedQuery(%q): %q, not %q", in, got, want)
		}
	}
}

func TestSortedQueryByLength(t *testing.T) {
	for in, want := range map[string]string{
		strings.Repeat("a", 200):             strings.Repeat("a", 200),
		strings.Repeat("a", 201):             "",
		"b&" + strings.Repeat("a", 198):      strings.Repeat("a", 198) + "&b",
		"b&" + strings.Repeat("a", 199):      "",
		strings.Repeat("&", 200):             "",
		strings.Repeat("&", 199) + "a":       "a",
		strings.Repeat("&", 200) + "a":       "",
		strings.Repeat("b&a&", 50):           strings.Repeat("a&", 50) + strings.Repeat("b&", 49) + "b",
		strings.Repeat("b&a&", 50) + "&":     "",
		strings.Repeat("\xff", 198) + "&a":   "a&" + strings.Repeat("\xff", 198),
		strings.Repeat("\xff", 199) + "&a":   "",
		strings.Repeat("b&a&", 1000):         "",
		strings.Repeat("\u00e9", 100):        strings.Repeat("\u00e9", 100),
		strings.Repeat("\u00e9", 100) + "&a": "",
	} {
		if got := impl.SortedQuery(in); got != want {
			t.Errorf("SortedQuery of %d bytes %.9q..: %q, not %q", len(in), in, got, want)
		}
	}
}

// plainSortedQuery tells SortedQuery once more: the least part that is left comes next.
func plainSortedQuery(s string) string {
	left := bytes.FieldsFunc([]byte(s), func(r rune) bool { return r == '&' })
	sorted := ""
	for len(left) > 0 {
		least := 0
		for i := range left {
			if bytes.Compare(left[i], left[least]) < 0 {
				least = i
			}
		}
		sorted += "&" + string(left[least])
		left = slices.Delete(left, least, least+1)
	}
	return strings.TrimPrefix(sorted, "&")
}

func TestWhatIsSortedIsSorted(t *testing.T) {
	for _, s := range append(textsOf("&ab=\xff", 7), mixedTexts(20000, 205)...) {
		got := impl.SortedQuery(s)
		want := plainSortedQuery(s)
		if len(s) > impl.MaxPath {
			want = ""
		}
		if got != want || impl.SortedQuery(got) != got {
			t.Fatalf("SortedQuery(%q): %q, not %q", s, got, want)
		}
	}
}

func TestKey(t *testing.T) {
	for in, want := range map[[2]string]string{
		{"h", "/"}:                              "h/",
		{"Host", "/x/%2e%2e/%61?b=2&a=1&"}:      "host/a?a=1&b=2",
		{"EXAMPLE.org", "/A/b/../C"}:            "example.org/A/C",
		{"example.ORG", "/A/./C"}:               "example.org/A/C",
		{"h", "/a"}:                             "h/a",
		{"h", "/a?"}:                            "h/a",
		{"h", "/a?&&"}:                          "h/a",
		{"h", "/a?b"}:                           "h/a?b",
		{"h", "/a?B=%41"}:                       "h/a?B=%41",
		{"h", "/a??"}:                           "h/a??",
		{"h", "/a?c?b&a"}:                       "h/a?a&c?b",
		{"h", "/a?c&?b"}:                        "h/a??b&c",
		{"h", "/a?/../b"}:                       "h/a?/../b",
		{"h", "/a/..?/."}:                       "h/?/.",
		{"h", "/?a"}:                            "h/?a",
		{"h", "/%3f?a"}:                         "h/%3F?a",
		{"h", "/a%3Fb"}:                         "h/a%3Fb",
		{"h", "/a b?c d"}:                       "h/a%20b?c d",
		{"h", "/a?%"}:                           "h/a?%",
		{"h", "/a?%g1&\xff"}:                    "h/a?%g1&\xff",
		{"!#$%&'*+-.^_|~`", "/"}:                "!#$%&'*+-.^_|~`/",
		{strings.Repeat("H", 64), "/a"}:         strings.Repeat("h", 64) + "/a",
		{"h", "/" + strings.Repeat("a", 199)}:   "h/" + strings.Repeat("a", 199),
		{"h", "/a?" + strings.Repeat("b", 200)}: "h/a?" + strings.Repeat("b", 200),
		{"h", "/a?" + strings.Repeat("b", 201)}: "h/a",
		{"h", "/" + strings.Repeat("a", 199) + "?" + strings.Repeat("b", 200)}: "h/" + strings.Repeat("a", 199) + "?" + strings.Repeat("b", 200),
		{"h", "/a?" + strings.Repeat("&", 199) + "b"}:                          "h/a?b",
	} {
		if got, is := impl.Key(in[0], in[1]); !is || got != want {
			t.Errorf("Key(%q, %q): %q, %v, not %q", in[0], in[1], got, is, want)
		}
	}
}

func TestNoKey(t *testing.T) {
	hosts := []string{"", " ", "a b", "h:80", "h/", "[h]", "h,i", "h\x00", "\"h\"", "h(", strings.Repeat("h", 65), strings.Repeat("h", 100000)}
	for _, host := range append(hosts, oddTexts...) {
		for _, target := range []string{"/", "/a?b", "", "a"} {
			if got, is := impl.Key(host, target); is || got != "" {
				t.Errorf("Key(%q, %q): %q, %v", host, target, got, is)
			}
		}
	}
	targets := []string{
		"", "?", "?a", "?/a", "a", "a?b", "*", " /", "./", "%2f", "http://h/a", "/%", "/%4?1", "/%?41", "/%g1?a=1", "/a%?b",
		"/" + strings.Repeat("a", 200), "/" + strings.Repeat("a", 200) + "?b", "/" + strings.Repeat(" ", 67) + "?b", strings.Repeat("/", 100000),
	}
	for _, target := range append(targets, oddTexts...) {
		for _, host := range []string{"h", "Host", ""} {
			if got, is := impl.Key(host, target); is || got != "" {
				t.Errorf("Key(%q, %q): %q, %v", host, target, got, is)
			}
		}
	}
}

// Two ways to write one place have one key, and two places have two.
func TestOnePlaceOneKey(t *testing.T) {
	ways := [][][2]string{
		{{"h.x", "/a/c?p=1&q=2"}, {"H.X", "/a/c?q=2&p=1"}, {"h.X", "/a/b/../c?&q=2&&p=1&"}, {"H.x", "/%61/./%63?p=1&q=2"}, {"h.x", "/a%2fc?p=1&q=2"}},
		{{"h.x", "/a/c/?p=1&q=2"}, {"h.x", "/a/c/.?q=2&p=1"}, {"h.x", "/a/c/d/..?q=2&p=1"}},
		{{"h.x", "/a//c?p=1&q=2"}, {"h.x", "/a//./c?p=1&q=2"}},
		{{"h.x", "/a/c?p=1&p=1&q=2"}, {"h.x", "/a/c?p=1&q=2&p=1"}},
		{{"h.x", "/a/c"}, {"h.x", "/a/c?"}, {"h.x", "/a/c?&"}},
		{{"h.x", "/a/c%3Fp=1&q=2"}, {"h.x", "/a/c%3fp%3D1%26q=2"}},
		{{"h.x", "/A/c?p=1&q=2"}},
		{{"h.x", "/a/c?P=1&q=2"}},
		{{"h.y", "/a/c?p=1&q=2"}},
	}
	seen := map[string]int{}
	for place, list := range ways {
		for _, way := range list {
			key, is := impl.Key(way[0], way[1])
			if other, there := seen[key]; !is || there && other != place {
				t.Errorf("Key(%q, %q): %q, %v, which is also of place %d", way[0], way[1], key, is, other)
			}
			seen[key] = place
		}
	}
	if len(seen) != len(ways) {
		t.Errorf("%d keys of %d places: %v", len(seen), len(ways), seen)
	}
}

func TestKeyIsWhatItsPartsTell(t *testing.T) {
	hosts := []string{"h", "Host.ORG", "", "a b", "~%`", "\xff", "h?"}
	for i, s := range append(textsOf("/?&.%4a", 5), mixedTexts(10000, 420)...) {
		host, target := hosts[i%len(hosts)], "/"+s
		if i%11 == 0 {
			target = s
		}
		at := strings.IndexByte(target+"?", '?')
		query := ""
		if at < len(target) {
			query = impl.SortedQuery(target[at+1:])
		}
		path, right := impl.NormalPath(target[:at])
		want := ""
		if right = right && impl.TokenOk(host); right {
			want = impl.Lower(host) + path
			if query != "" {
				want += "?" + query
			}
		}
		if got, is := impl.Key(host, target); is != right || got != want {
			t.Fatalf("Key(%q, %q): %q, %v, not %q", host, target, got, is, want)
		}
	}
}

// pathAnswers are the texts that all functions of the chapter answer at one text, and their flags.
func pathAnswers(s string) ([]string, [4]bool) {
	uncoded, isUncoded := impl.Uncoded(s)
	normal, isNormal := impl.NormalPath(s)
	asHost, isHost := impl.Key(s, "/a")
	asTarget, isTarget := impl.Key("h", s)
	return []string{impl.Coded(s), impl.Dotless(s), impl.SortedQuery(s), uncoded, normal, asHost, asTarget}, [4]bool{isUncoded, isNormal, isHost, isTarget}
}

func TestPathAnswersAreNewMemory(t *testing.T) {
	for _, s := range []string{"/plain", "/", "plain", "/a/b/c", "a&b", "/a?a&b", "token", "/a/../b", "/%41%42", strings.Repeat("a", 200), "/" + strings.Repeat("b", 199)} {
		s = strings.Clone(s)
		before := strings.Clone(s)
		answers, _ := pathAnswers(s)
		for i, answer := range answers {
			if sharesMemory(answer, s) {
				t.Errorf("answer %d of %q shares its memory", i, s)
			}
			for j := range i {
				if len(answer) > 1 && sharesMemory(answer, answers[j]) {
					t.Errorf("answers %d and %d of %q share their memory", i, j, s)
				}
			}
		}
		if s != before {
			t.Errorf("%q became %q", before, s)
		}
	}
}

func TestPathFunctionsAnswerAtEveryText(t *testing.T) {
	texts := append(textsOf("\x00 %/.&?4aG\x80\xff", 4), hugeTexts()...)
	texts = append(texts, oddTexts...)
	for _, s := range append(texts, mixedTexts(5000, 500)...) {
		before := strings.Clone(s)
		first, flags := pathAnswers(s)
		second, too := pathAnswers(s)
		if !slices.Equal(first, second) || flags != too || s != before {
			t.Fatalf("%.20q: %.40q and %.40q", s, first, second)
		}
		for i, is := range flags {
			if !is && first[3+i] != "" {
				t.Fatalf("%.20q: %.40q beside false", s, first[3+i])
			}
		}
		if path := len(s) <= impl.MaxPath && strings.HasPrefix(s, "/"); path != (first[1] != "") || flags[1] && !path {
			t.Fatalf("Dotless(%.20q): %.40q; NormalPath says %v", s, first[1], flags[1])
		}
	}
}
