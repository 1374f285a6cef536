package tests

import (
	"fmt"
	"math"
	"math/big"
	"math/rand"
	"regexp"
	"slices"
	"strconv"
	"strings"
	"testing"

	"loop.example/g00207/impl"
)

const (
	greatest = math.MaxInt64
	least    = math.MinInt64
)

// spansOf makes Spans of their ends, two and two.
func spansOf(ends ...int64) []impl.Span {
	spans := []impl.Span{}
	for i := 0; i+1 < len(ends); i += 2 {
		spans = append(spans, impl.Span{From: ends[i], To: ends[i+1]})
	}
	return spans
}

// apartSpans are that many Spans of two bytes, with one byte between each two.
func apartSpans(count int64) []impl.Span {
	spans := []impl.Span{}
	for i := range count {
		spans = append(spans, impl.Span{From: 3 * i, To: 3*i + 1})
	}
	return spans
}

// noSpans are of one end that is not so at least.
func noSpans() []impl.Span {
	return spansOf(-1, 0, -1, 5, -1, -1, 1, 0, 2, 1, 5, 3, 0, -1, 9, 0, -5, -7, -7, -5, least, 0, 0, least, least, least, least, greatest, greatest, least, -1, greatest, greatest, greatest-1, greatest, 0, greatest, -1, 1<<40, 1<<40-1)
}

// farSpans are right, and far out.
func farSpans() []impl.Span {
	return spansOf(0, greatest, greatest, greatest, greatest-1, greatest, greatest-1, greatest-1, 1, greatest, 1, greatest-1, 0, greatest-1, 1<<40, 1<<41, 0, 1<<40, 1<<62, greatest, 1<<62, 1<<62, 4000, 4000, 4000, 1<<32)
}

func spanIs(s impl.Span) bool {
	return s.From >= 0 && s.From <= s.To
}

// ordersOf tells a list in each of its orders.
func ordersOf(list []impl.Span) [][]impl.Span {
	if len(list) < 2 {
		return [][]impl.Span{slices.Clone(list)}
	}
	var orders [][]impl.Span
	for i, first := range list {
		for _, rest := range ordersOf(slices.Concat(list[:i], list[i+1:])) {
			orders = append(orders, append([]impl.Span{first}, rest...))
		}
	}
	return orders
}

// roomySpans lays a list into memory of its own, with Spans in the room behind it.
func roomySpans(list []impl.Span) []impl.Span {
	all := slices.Repeat([]impl.Span{{From: 77, To: 78}}, len(list)+5)
	copy(all, list)
	return all[:len(list)]
}

// plainMerged tells Merged once more, of Spans that end ahead of 200, by the bytes they have.
func plainMerged(list []impl.Span) []impl.Span {
	var has [202]bool
	for _, span := range list {
		if !spanIs(span) || len(list) > 10 {
			return nil
		}
		for at := span.From; at <= span.To; at++ {
			has[at+1] = true
		}
	}
	var merged []impl.Span
	for at := 1; at < len(has); at++ {
		if has[at] && !has[at-1] {
			merged = append(merged, impl.Span{From: int64(at - 1)})
		}
		if has[at] {
			merged[len(merged)-1].To = int64(at - 1)
		}
	}
	return merged
}

var isSpanItem = regexp.MustCompile(`^(?:([0-9]{1,15})-([0-9]{0,15})|-([0-9]{1,15}))$`)

// plainReadSpans tells ReadSpans once more: of each Item the bytes of the body that it has.
func plainReadSpans(s string, size int64) ([]impl.Span, bool) {
	if len(s) < 6 || s[:6] != "bytes=" || !impl.VisibleOk(s[6:]) || size < 0 || size > 4000 {
		return nil, false
	}
	items := plainItems(s[6:])
	var spans []impl.Span
	for _, item := range items {
		parts := isSpanItem.FindStringSubmatch(item)
		if parts == nil || len(items) > 10 {
			return nil, false
		}
		a, _ := strconv.ParseInt(parts[1], 10, 64)
		b, _ := strconv.ParseInt(parts[2], 10, 64)
		n, _ := strconv.ParseInt(parts[3], 10, 64)
		if parts[1] != "" && parts[2] != "" && b < a {
			return nil, false
		}
		var has []int64
		for at := range size {
			behind := parts[1] != "" && at >= a && (parts[2] == "" || at <= b)
			if behind || parts[1] == "" && size-at <= n {
				has = append(has, at)
			}
		}
		if len(has) > 0 {
			spans = append(spans, impl.Span{From: has[0], To: has[len(has)-1]})
		}
	}
	return spans, len(spans) > 0
}

func checkSpans(t *testing.T, s string, size int64, want []impl.Span) {
	t.Helper()
	got, is := impl.ReadSpans(s, size)
	if is != (len(want) > 0) || !slices.Equal(got, want) {
		t.Errorf("ReadSpans(%.80q, %d): %v, %v, not %v", s, size, got, is, want)
	}
}

func TestMaxSpans(t *testing.T) {
	if impl.MaxSpans != 10 {
		t.Fatal(impl.MaxSpans)
	}
}

func TestReadSpans(t *testing.T) {
	for s, want := range map[string][]impl.Span{
		"bytes=0-1, 5-, -2, 20-30": spansOf(0, 1, 5, 9, 8, 9),
		"bytes=0-0":                spansOf(0, 0),
		"bytes=0-9":                spansOf(0, 9),
		"bytes=3-6":                spansOf(3, 6),
		"bytes=9-9":                spansOf(9, 9),
		"bytes=0-":                 spansOf(0, 9),
		"bytes=8-":                 spansOf(8, 9),
		"bytes=9-":                 spansOf(9, 9),
		"bytes=10-":                nil,
		"bytes=11-":                nil,
		"bytes=-1":                 spansOf(9, 9),
		"bytes=-9":                 spansOf(1, 9),
		"bytes=-10":                spansOf(0, 9),
		"bytes=-11":                spansOf(0, 9),
		"bytes=-0":                 nil,
		"bytes=-0,-1":              spansOf(9, 9),
		"bytes=3-10":               spansOf(3, 9),
		"bytes=3-11":               spansOf(3, 9),
		"bytes=9-10":               spansOf(9, 9),
		"bytes=10-10":              nil,
		"bytes=10-11":              nil,
		"bytes=10-11,9-":           spansOf(9, 9),
		"bytes=4-4":                spansOf(4, 4),
		"bytes=4-3":                nil,
		"bytes=4-3,0-1":            nil,
		"bytes=0-1,4-3":            nil,
		"bytes=20-19":              nil,
		"bytes=0-1,20-19":          nil,
		"bytes=20-20,0-1":          spansOf(0, 1),
		"bytes=5-6,0-1":            spansOf(5, 6, 0, 1),
		"bytes=1-2,1-2,2-3":        spansOf(1, 2, 1, 2, 2, 3),
		"bytes=-3,-3,7-":           spansOf(7, 9, 7, 9, 7, 9),
	} {
		checkSpans(t, s, 10, want)
	}
}

func TestReadSpansByUnit(t *testing.T) {
	checkSpans(t, "bytes=0-1", 10, spansOf(0, 1))
	for _, unit := range []string{"", "=", "byte=", "bytes", "bytes:", "bytes ", "bytes =", " bytes=", "\tbytes=", ",bytes=", "Bytes=", "BYTES=", "bytEs=", "bytes==", "=bytes", "bits=", "items=", "seconds=", "x=", "bytes=bytes=", "bytes-", "b", "bytes\x00=", "\xffbytes=", "bytes=\xff", "byte\u017f=", "bytes\uff1d"} {
		for _, told := range []string{"0-1", "-1", "0-", "0-1,2-3", ""} {
			checkSpans(t, unit+told, 10, nil)
		}
	}
	// There is no Item in these at all.
	for _, s := range []string{"", "bytes=", "bytes= ", "bytes=\t", "bytes=,", "bytes= , ,\t", "bytes=" + strings.Repeat(",", 400), "bytes=" + strings.Repeat(" ", 400)} {
		checkSpans(t, s, 10, nil)
	}
}

func TestReadSpansOfBlanksAndCommas(t *testing.T) {
	for _, s := range []string{"0-1,5-", " 0-1 , 5- ", "\t0-1\t,\t5-\t", ",0-1,,5-,", ",,, 0-1 ,\t, , 5- ,,,", "0-1,5-" + strings.Repeat(" ", 394), strings.Repeat(",", 394) + "0-1,5-"} {
		checkSpans(t, "bytes="+s, 10, spansOf(0, 1, 5, 9))
	}
	// A blank within an Item stays in it, and Digits don't take it.
	for _, s := range []string{"0 -1", "0- 1", "0 - 1", "0-1 2", "0-1 5-", "0 0-1", "- 1", "0\t-1", "0-1;5-", "0-1\n", "\n0-1", "0-1,\r\n5-", "0-1\v", "0\u00a0-1", "0-1,5- x"} {
		checkSpans(t, "bytes="+s, 10, nil)
	}
}

func TestReadSpansByCount(t *testing.T) {
	told := func(items ...string) string { return "bytes=" + strings.Join(items, ",") }
	ten := []string{"0-0", "1-", "-2", "3-3", "4-40", "5-5", "-60", "7-7", "8-8", "9-9"}
	spans := spansOf(0, 0, 1, 9, 8, 9, 3, 3, 4, 9, 5, 5, 0, 9, 7, 7, 8, 8, 9, 9)
	for n := range 11 {
		checkSpans(t, told(ten[:n]...), 10, spans[:n])
		checkSpans(t, told(ten[:n]...)+", ,", 10, spans[:n])
	}
	// Those that go count, too: 10 Items may be told, 11 may not.
	for _, gone := range []string{"10-", "-0", "10-11", "999-"} {
		checkSpans(t, told(append(slices.Clone(ten[:9]), gone)...), 10, spans[:9])
		checkSpans(t, told(append([]string{gone}, ten[:9]...)...), 10, spans[:9])
		checkSpans(t, told(append(slices.Repeat([]string{gone}, 9), "0-0")...), 10, spans[:1])
		checkSpans(t, told(slices.Repeat([]string{gone}, 10)...), 10, nil)
		checkSpans(t, told(append(slices.Clone(ten), gone)...), 10, nil)
		checkSpans(t, told(append([]string{gone}, ten...)...), 10, nil)
		checkSpans(t, told(append(slices.Repeat([]string{gone}, 10), "0-0")...), 10, nil)
	}
	for _, count := range []int{11, 12, 20, 100} {
		checkSpans(t, told(slices.Repeat([]string{"0-0"}, count)...), 10, nil)
	}
	checkSpans(t, told(slices.Repeat([]string{"0-0"}, 10)...), 10, slices.Repeat(spansOf(0, 0), 10))
}

func TestReadSpansBySize(t *testing.T) {
	if impl.MaxBody != 4000 {
		t.Fatal(impl.MaxBody)
	}
	items := []string{"0-0", "0-", "-1", "-2", "0-5", "1-", "1-1", "3999-", "3999-3999", "4000-", "4000-4000", "4001-", "-3999", "-4000", "-4001", "0-3999", "0-4000", "-0"}
	for _, size := range []int64{-1, -2, -4000, 4001, 4002, 8000, 1 << 31, 1 << 32, 1 << 40, greatest, least, least + 1} {
		for _, item := range items {
			checkSpans(t, "bytes="+item, size, nil)
		}
	}
	for _, item := range items {
		checkSpans(t, "bytes="+item, 0, nil)
	}
	checkSpans(t, "bytes="+strings.Join(items[:10], ","), 0, nil)
	want := map[int64][][]impl.Span{
		1:    {spansOf(0, 0), spansOf(0, 0), spansOf(0, 0), spansOf(0, 0), spansOf(0, 0), nil, nil, nil, nil, nil, nil, nil, spansOf(0, 0), spansOf(0, 0), spansOf(0, 0), spansOf(0, 0), spansOf(0, 0), nil},
		4000: {spansOf(0, 0), spansOf(0, 3999), spansOf(3999, 3999), spansOf(3998, 3999), spansOf(0, 5), spansOf(1, 3999), spansOf(1, 1), spansOf(3999, 3999), spansOf(3999, 3999), nil, nil, nil, spansOf(1, 3999), spansOf(0, 3999), spansOf(0, 3999), spansOf(0, 3999), spansOf(0, 3999), nil},
		3999: {spansOf(0, 0), spansOf(0, 3998), spansOf(3998, 3998), spansOf(3997, 3998), spansOf(0, 5), spansOf(1, 3998), spansOf(1, 1), nil, nil, nil, nil, nil, spansOf(0, 3998), spansOf(0, 3998), spansOf(0, 3998), spansOf(0, 3998), spansOf(0, 3998), nil},
	}
	for size, all := range want {
		for i, spans := range all {
			checkSpans(t, "bytes="+items[i], size, spans)
		}
	}
}

// Each form with each number around the end of each small body.
func TestReadSpansByEnds(t *testing.T) {
	for size := range int64(9) {
		for a := range size + 4 {
			from, last := fmt.Sprintf("bytes=%d-", a), fmt.Sprintf("bytes=-%d", a)
			switch {
			case a >= size:
				checkSpans(t, from, size, nil)
			default:
				checkSpans(t, from, size, spansOf(a, size-1))
			}
			switch {
			case a == 0 || size == 0:
				checkSpans(t, last, size, nil)
			case a >= size:
				checkSpans(t, last, size, spansOf(0, size-1))
			default:
				checkSpans(t, last, size, spansOf(size-a, size-1))
			}
			for b := range size + 4 {
				s := fmt.Sprintf("bytes=%d-%d", a, b)
				switch {
				case b < a || a >= size:
					checkSpans(t, s, size, nil)
				case b >= size:
					checkSpans(t, s, size, spansOf(a, size-1))
				default:
					checkSpans(t, s, size, spansOf(a, b))
				}
			}
		}
	}
}

func TestReadSpansByDigits(t *testing.T) {
	for s, want := range map[string][]impl.Span{
		"00-01":                              spansOf(0, 1),
		"007-":                               spansOf(7, 9),
		"-003":                               spansOf(7, 9),
		"000000000000003-000000000000003":    spansOf(3, 3),
		"000000000000003-":                   spansOf(3, 9),
		"-000000000000003":                   spansOf(7, 9),
		"-000000000000000":                   nil,
		"0-999999999999999":                  spansOf(0, 9),
		"-999999999999999":                   spansOf(0, 9),
		"999999999999999-":                   nil,
		"999999999999999-999999999999999":    nil,
		"999999999999999-,3-4":               spansOf(3, 4),
		"999999999999999-999999999999998":    nil,
		"3-4,999999999999999-":               spansOf(3, 4),
		"0000000000000003-4":                 nil,
		"3-0000000000000004":                 nil,
		"0000000000000003-":                  nil,
		"-0000000000000003":                  nil,
		"0-9999999999999999":                 nil,
		"-9999999999999999":                  nil,
		"9999999999999999-":                  nil,
		"9999999999999999-9999999999999999":  nil,
		"3-4,9999999999999999-":              nil,
		"9999999999999999-,3-4":              nil,
		"9223372036854775807-":               nil,
		"0-9223372036854775807":              nil,
		"-9223372036854775808":               nil,
		"0-18446744073709551616":             nil,
		strings.Repeat("0", 300) + "-":       nil,
		"0-" + strings.Repeat("9", 300):      nil,
		"-" + strings.Repeat("9", 300):       nil,
		"00000000000000-00000000000000,-001": spansOf(0, 0, 9, 9),
	} {
		checkSpans(t, "bytes="+s, 10, want)
	}
	// Where a digit may stand, another byte may not.
	for b := range 256 {
		s := string([]byte{byte(b)})
		digit := b >= '0' && b <= '9'
		for _, told := range []string{"1" + s + "-", "1-1" + s, "-1" + s} {
			_, is := impl.ReadSpans("bytes="+told, 4000)
			blank := (b == ' ' || b == '\t' || b == ',') && told != "1"+s+"-"
			if is != (digit || blank) {
				t.Errorf("ReadSpans(bytes=%q): %v", told, is)
			}
		}
	}
}

// wrongSpanTexts are no text that ReadSpans reads, whatever the size is.
func wrongSpanTexts() []string {
	texts := []string{"", "x", "bytes", "bytes=", "bytes=x", "=0-1", "0-1", "bytes 0-1", "bytes 0-1/10", "Bytes=0-1", "none", "*", "bytes=*"}
	for _, item := range []string{"-", "--", "---", "5", "0", "12", "1-2-3", "1--2", "--1", "-1-", "-1-2", "1-2-", "1--", "-1-1", "a-", "-a", "a-b", "0-a", "a-1", "1.0-2", "0x1-", "+1-2", "1-+2", "-+1", "1e1-", "0-1/10", "0-1=", "=0-1", "bytes=0-1", "0:1", "0..1", "0\u20131", "\u0661-", "\uff11-\uff12", "\"0-1\"", "\"0-1", "0-1\"", "'0-1'", "(0-1)", "\\0-1", "0\\-1", "*", "*-", "*-*", "0-*", "2-1", "1-0", "4000-3999"} {
		for _, told := range []string{item, "0-1," + item, item + ",0-1", "0-," + item + ", -1", "9999-," + item} {
			texts = append(texts, "bytes="+told)
		}
	}
	for _, odd := range oddTexts {
		texts = append(texts, odd, "bytes="+odd, "bytes=0-1"+odd, "bytes=0-1,"+odd, "bytes="+odd+",0-1", "bytes=0-1, "+odd+" ,5-", odd+"bytes=0-1")
	}
	return texts
}

func TestReadSpansOfWrongTexts(t *testing.T) {
	for _, s := range wrongSpanTexts() {
		for _, size := range []int64{0, 1, 10, 4000, 4001, -1} {
			checkSpans(t, s, size, nil)
		}
	}
}

// What stands behind bytes= is visible where it has 400 bytes, and is not where it has 401.
func TestReadSpansByLength(t *testing.T) {
	for n, want := range map[int][]impl.Span{3: spansOf(0, 1), 399: spansOf(0, 1), 400: spansOf(0, 1), 401: nil, 402: nil, 406: nil, 407: nil, 4000: nil, 100000: nil} {
		checkSpans(t, "bytes=0-1"+strings.Repeat(" ", n-3), 10, want)
		checkSpans(t, "bytes="+strings.Repeat(",", n-3)+"0-1", 10, want)
	}
	checkSpans(t, strings.Repeat(" ", 391)+"bytes=0-1", 10, nil)
	checkSpans(t, "bytes="+strings.Repeat("0-1,", 100000), 10, nil)
}

// spanTexts are of Items, of what is near them, and of what stands between, in any order; the same in each run.
func spanTexts() []string {
	source := rand.New(rand.NewSource(9))
	pieces := []string{"0-", "0-0", "0-1", "2-5", "3-2", "5-", "9-9", "10-", "10-12", "-0", "-1", "-3", "-11", "007-", "-", "5", "1-2-3", "\"0-1\"", "x", " ", "0-999999999999999", "0-9999999999999999"}
	texts := nearTexts("bytes=0-1, 5-, -2")
	for _, told := range textsOf("01-, ", 5) {
		texts = append(texts, "bytes="+told)
	}
	for range 20000 {
		text := "bytes="
		// Of the pieces that are no Items, few: one spoils the whole text.
		few := 14 + source.Intn(len(pieces)-13)*source.Intn(2)
		for range source.Intn(13) {
			text += pieces[source.Intn(few)] + ", "
		}
		switch source.Intn(20) {
		case 0:
			text += "\x7f"
		case 1:
			text = text[1:]
		}
		texts = append(texts, text)
	}
	return texts
}

func TestReadSpansOfManyTexts(t *testing.T) {
	var counts [2]int
	for _, s := range spanTexts() {
		for _, size := range []int64{0, 1, 3, 10, 12} {
			want, there := plainReadSpans(s, size)
			got, is := impl.ReadSpans(s, size)
			if is != there || !slices.Equal(got, want) {
				t.Fatalf("ReadSpans(%q, %d): %v, %v, not %v", s, size, got, is, want)
			}
			if !is {
				counts[0]++
				continue
			}
			counts[1]++
			body := strings.Repeat("b", int(size))
			for _, span := range got {
				if impl.Cut(body, span) == "" || impl.ShowSpan(span, size) == "" {
					t.Fatalf("ReadSpans(%q, %d): %v is not within the body", s, size, span)
				}
			}
			if all := impl.Total(got); all < 1 || all > size {
				t.Fatalf("ReadSpans(%q, %d): %v, which are %d bytes", s, size, got, all)
			}
		}
	}
	if slices.Min(counts[:]) < 10000 {
		t.Errorf("the kinds came %v times only", counts)
	}
}

func checkMerged(t *testing.T, list []impl.Span, want []impl.Span) {
	t.Helper()
	if got := impl.Merged(list); !slices.Equal(got, want) {
		t.Errorf("Merged(%v): %v, not %v", list, got, want)
	}
}

func TestMerged(t *testing.T) {
	for _, c := range []struct{ list, want []impl.Span }{
		{nil, nil},
		{spansOf(), nil},
		{spansOf(0, 0), spansOf(0, 0)},
		{spansOf(3, 7), spansOf(3, 7)},
		{spansOf(5, 9, 0, 1), spansOf(0, 1, 5, 9)},
		{spansOf(0, 1, 5, 9, 8, 9, 2, 3), spansOf(0, 3, 5, 9)},
		{spansOf(2, 4, 2, 4), spansOf(2, 4)},
		{spansOf(2, 4, 2, 4, 2, 4), spansOf(2, 4)},
		{spansOf(0, 9, 3, 5), spansOf(0, 9)},
		{spansOf(0, 9, 0, 5), spansOf(0, 9)},
		{spansOf(0, 9, 5, 9), spansOf(0, 9)},
		{spansOf(0, 9, 1, 1, 3, 4, 6, 8), spansOf(0, 9)},
		{spansOf(0, 9, 3, 5, 8, 12), spansOf(0, 12)},
		{spansOf(0, 9, 3, 5, 10, 12), spansOf(0, 12)},
		{spansOf(0, 9, 3, 5, 11, 12), spansOf(0, 9, 11, 12)},
		{spansOf(2, 5, 5, 7), spansOf(2, 7)},
		{spansOf(2, 5, 6, 7), spansOf(2, 7)},
		{spansOf(2, 5, 7, 7), spansOf(2, 5, 7, 7)},
		{spansOf(2, 5, 8, 9), spansOf(2, 5, 8, 9)},
		{spansOf(0, 0, 1, 1), spansOf(0, 1)},
		{spansOf(0, 0, 2, 2), spansOf(0, 0, 2, 2)},
		{spansOf(0, 0, 1, 1, 2, 2), spansOf(0, 2)},
		{spansOf(0, 0, 2, 2, 1, 1), spansOf(0, 2)},
		{spansOf(0, 1, 3, 4, 6, 7, 2, 2), spansOf(0, 4, 6, 7)},
		{spansOf(10, 20, 30, 40, 15, 35), spansOf(10, 40)},
	} {
		for _, list := range ordersOf(c.list) {
			checkMerged(t, list, c.want)
		}
	}
}

func TestMergedFarOut(t *testing.T) {
	for _, c := range []struct{ list, want []impl.Span }{
		{spansOf(0, greatest), spansOf(0, greatest)},
		{spansOf(greatest, greatest), spansOf(greatest, greatest)},
		{spansOf(0, greatest, 0, greatest), spansOf(0, greatest)},
		{spansOf(0, greatest, 0, 0), spansOf(0, greatest)},
		{spansOf(0, greatest, greatest, greatest), spansOf(0, greatest)},
		{spansOf(0, greatest, 5, 6, greatest-1, greatest), spansOf(0, greatest)},
		{spansOf(0, greatest-1, greatest, greatest), spansOf(0, greatest)},
		{spansOf(0, greatest-2, greatest, greatest), spansOf(0, greatest-2, greatest, greatest)},
		{spansOf(0, 0, greatest, greatest), spansOf(0, 0, greatest, greatest)},
		{spansOf(0, 0, 1, greatest), spansOf(0, greatest)},
		{spansOf(0, 0, 2, greatest), spansOf(0, 0, 2, greatest)},
		{spansOf(greatest-1, greatest-1, greatest, greatest), spansOf(greatest-1, greatest)},
		{spansOf(greatest-2, greatest-2, greatest, greatest), spansOf(greatest-2, greatest-2, greatest, greatest)},
		{spansOf(7, greatest, 3, 4), spansOf(3, 4, 7, greatest)},
		{spansOf(1<<62, 1<<62, 0, 1<<62-1), spansOf(0, 1<<62)},
		{spansOf(1<<32, 1<<32, 0, 1<<31), spansOf(0, 1<<31, 1<<32, 1<<32)},
	} {
		for _, list := range ordersOf(c.list) {
			checkMerged(t, list, c.want)
		}
	}
}

func TestMergedByCount(t *testing.T) {
	for n := range int64(11) {
		list := apartSpans(n)
		checkMerged(t, list, list)
		turned := slices.Clone(list)
		slices.Reverse(turned)
		checkMerged(t, turned, list)
	}
	for _, n := range []int64{11, 12, 100, 100000} {
		checkMerged(t, apartSpans(n), nil)
	}
	checkMerged(t, slices.Repeat(spansOf(4, 5), 10), spansOf(4, 5))
	// 11 are too many, though they would be one.
	checkMerged(t, slices.Repeat(spansOf(4, 5), 11), nil)
	checkMerged(t, append(apartSpans(10), impl.Span{From: 2, To: 2}), nil)
	checkMerged(t, append(apartSpans(9), impl.Span{From: 0, To: 100}), spansOf(0, 100))
}

func TestMergedOfOneThatIsNone(t *testing.T) {
	for _, wrong := range noSpans() {
		checkMerged(t, []impl.Span{wrong}, nil)
		for n := range 10 {
			right := apartSpans(int64(n))
			for at := range n + 1 {
				checkMerged(t, slices.Insert(slices.Clone(right), at, wrong), nil)
			}
		}
		checkMerged(t, []impl.Span{wrong, wrong}, nil)
		checkMerged(t, []impl.Span{{From: 0, To: greatest}, wrong}, nil)
	}
	checkMerged(t, noSpans()[:10], nil)
}

// checkPromise asks whether what is Merged rises, is apart, and has just the bytes of all.
func checkPromise(t *testing.T, list []impl.Span) {
	t.Helper()
	merged := impl.Merged(list)
	has := func(spans []impl.Span, at int64) bool {
		return slices.ContainsFunc(spans, func(s impl.Span) bool { return s.From <= at && at <= s.To })
	}
	for i, span := range merged {
		if !spanIs(span) || i > 0 && (span.From <= merged[i-1].To || span.From-merged[i-1].To < 2) {
			t.Fatalf("Merged(%v): %v does not rise", list, merged)
		}
	}
	for _, span := range slices.Concat(list, merged) {
		for _, end := range []int64{span.From, span.To} {
			for at := max(end, 2) - 2; at <= min(end, greatest-2)+2 && at >= 0; at++ {
				if has(list, at) != has(merged, at) {
					t.Fatalf("Merged(%v): %v, but for byte %d", list, merged, at)
				}
			}
		}
	}
	if again := impl.Merged(merged); !slices.Equal(again, merged) {
		t.Fatalf("Merged(%v): %v", merged, again)
	}
}

func TestMergedOfAllShortLists(t *testing.T) {
	all := []impl.Span{}
	for from := int64(-1); from < 6; from++ {
		for to := from - 1; to < 6; to++ {
			all = append(all, impl.Span{From: from, To: to})
		}
	}
	for _, a := range all {
		checkMerged(t, []impl.Span{a}, plainMerged([]impl.Span{a}))
		for _, b := range all {
			checkMerged(t, []impl.Span{a, b}, plainMerged([]impl.Span{a, b}))
			for _, c := range all {
				checkMerged(t, []impl.Span{a, b, c}, plainMerged([]impl.Span{a, b, c}))
			}
		}
	}
}

// mixedSpans are lists of at most 11 Spans, some of them wrong, that end ahead of 200; the same in each run.
func mixedSpans(count int) [][]impl.Span {
	source := rand.New(rand.NewSource(10))
	lists := make([][]impl.Span, count)
	for i := range lists {
		reach := 1 + source.Int63n(100)
		for range source.Intn(12) {
			from := source.Int63n(reach)
			lists[i] = append(lists[i], impl.Span{From: from, To: from + source.Int63n(1+reach/(2+source.Int63n(20)))})
		}
		if len(lists[i]) > 0 && source.Intn(10) == 0 {
			wrong := noSpans()
			lists[i][source.Intn(len(lists[i]))] = wrong[source.Intn(len(wrong))]
		}
	}
	return lists
}

func TestMergedOfManyLists(t *testing.T) {
	var counts [12]int
	for _, list := range mixedSpans(20000) {
		want := plainMerged(list)
		if got := impl.Merged(list); !slices.Equal(got, want) {
			t.Fatalf("Merged(%v): %v, not %v", list, got, want)
		}
		counts[len(want)]++
		if len(want) > 0 {
			checkPromise(t, list)
		}
	}
	if slices.Min(counts[:7]) < 300 {
		t.Errorf("the lengths came %v times only", counts)
	}
	ends := []int64{0, 1, 2, 3, 1 << 40, 1<<40 + 1, 1<<40 + 2, greatest - 3, greatest - 2, greatest - 1, greatest}
	source := rand.New(rand.NewSource(11))
	for range 20000 {
		list := []impl.Span{}
		for range 1 + source.Intn(10) {
			from := source.Intn(len(ends))
			to := from + source.Intn(min(2, len(ends)-from))
			list = append(list, impl.Span{From: ends[from], To: ends[to]})
		}
		if len(impl.Merged(list)) == 0 {
			t.Fatalf("Merged(%v) is nothing", list)
		}
		checkPromise(t, list)
	}
}

func TestCut(t *testing.T) {
	for span, want := range map[impl.Span]string{
		{From: 0, To: 0}:              "a",
		{From: 0, To: 5}:              "abcdef",
		{From: 2, To: 3}:              "cd",
		{From: 5, To: 5}:              "f",
		{From: 4, To: 5}:              "ef",
		{From: 5, To: 6}:              "",
		{From: 0, To: 6}:              "",
		{From: 6, To: 6}:              "",
		{From: 6, To: 7}:              "",
		{From: 7, To: 9}:              "",
		{From: 3, To: 2}:              "",
		{From: 1, To: 0}:              "",
		{From: 0, To: -1}:             "",
		{From: -1, To: 0}:             "",
		{From: -1, To: 3}:             "",
		{From: -1, To: -1}:            "",
		{From: 6, To: 5}:              "",
		{From: 0, To: 1 << 32}:        "",
		{From: 0, To: 1<<32 + 2}:      "",
		{From: 1 << 32, To: 1 << 32}:  "",
		{From: 0, To: greatest}:       "",
		{From: greatest, To: 0}:       "",
		{From: 5, To: greatest}:       "",
		{From: 0, To: least}:          "",
		{From: least, To: 3}:          "",
		{From: least, To: greatest}:   "",
		{From: greatest, To: least}:   "",
		{From: least, To: least}:      "",
		{From: least, To: least + 3}:  "",
		{From: greatest, To: 3}:       "",
		{From: -1, To: greatest}:      "",
		{From: greatest - 1, To: 1}:   "",
		{From: 0, To: greatest - 1}:   "",
		{From: -6, To: -1}:            "",
		{From: 3, To: -1}:             "",
		{From: least + 1, To: 0}:      "",
		{From: 0, To: math.MaxInt32}:  "",
		{From: math.MinInt32, To: 0}:  "",
		{From: 1, To: math.MaxUint32}: "",
	} {
		if got := impl.Cut("abcdef", span); got != want {
			t.Errorf("Cut(abcdef, %v): %q, not %q", span, got, want)
		}
	}
	if got := impl.Cut("abcdef", impl.Span{From: greatest, To: greatest}); got != "" {
		t.Errorf("Cut of the greatest: %q", got)
	}
}

func TestCutOfManyBodies(t *testing.T) {
	long := strings.Repeat("0123456789", 500)
	bodies := append([]string{"", "x", "\x00", "\xff\xfe", "\u00e9\u20ac", "a\r\nb", "ab\x00cd", long[:4000], long[:4001], long}, oddTexts...)
	for _, body := range bodies {
		size := int64(len(body))
		for _, from := range []int64{-2, -1, 0, 1, 2, size - 2, size - 1, size, size + 1} {
			for _, to := range []int64{-2, -1, 0, 1, 2, size - 2, size - 1, size, size + 1} {
				want := ""
				if from >= 0 && to >= from && to <= size-1 {
					want = string([]byte(body)[from : to+1])
				}
				if got := impl.Cut(body, impl.Span{From: from, To: to}); got != want {
					t.Errorf("Cut(%.20q, %d-%d): %.60q, not %.60q", body, from, to, got, want)
				}
			}
		}
		for _, span := range append(farSpans(), noSpans()...) {
			if got := impl.Cut(body, span); got != "" && (span.To >= size || !spanIs(span)) {
				t.Errorf("Cut(%.20q, %v): %.60q", body, span, got)
			}
		}
	}
	// What is behind the one and ahead of the other are together the body.
	for at := range int64(4999) {
		if impl.Cut(long, impl.Span{To: at})+impl.Cut(long, impl.Span{From: at + 1, To: 4999}) != long {
			t.Fatalf("Cut at %d", at)
		}
	}
}

func TestShowSpan(t *testing.T) {
	for _, c := range []struct {
		from, to, size int64
		want           string
	}{
		{2, 3, 6, "bytes 2-3/6"},
		{0, 0, 1, "bytes 0-0/1"},
		{0, 0, 2, "bytes 0-0/2"},
		{0, 5, 6, "bytes 0-5/6"},
		{5, 5, 6, "bytes 5-5/6"},
		{0, 6, 6, ""},
		{6, 6, 6, ""},
		{0, 7, 6, ""},
		{7, 8, 6, ""},
		{0, 0, 0, ""},
		{0, 0, -1, ""},
		{0, 0, least, ""},
		{0, 1, 1, ""},
		{3, 2, 6, ""},
		{1, 0, 6, ""},
		{0, -1, 0, ""},
		{0, -1, 6, ""},
		{-1, 0, 6, ""},
		{-1, 3, 6, ""},
		{-2, -1, 0, ""},
		{-2, -1, 6, ""},
		{-3, -2, -1, ""},
		{10, 99, 100, "bytes 10-99/100"},
		{100, 999, 1000, "bytes 100-999/1000"},
		{0, 3999, 4000, "bytes 0-3999/4000"},
		{0, 3999, 4001, "bytes 0-3999/4001"},
		{4000, 4999, 5000, "bytes 4000-4999/5000"},
		{1234567890123, 12345678901234, 123456789012345, "bytes 1234567890123-12345678901234/123456789012345"},
		{1 << 40, 1 << 41, 1 << 42, "bytes 1099511627776-2199023255552/4398046511104"},
		{0, greatest - 1, greatest, "bytes 0-9223372036854775806/9223372036854775807"},
		{greatest - 1, greatest - 1, greatest, "bytes 9223372036854775806-9223372036854775806/9223372036854775807"},
		{0, 0, greatest, "bytes 0-0/9223372036854775807"},
		{0, greatest, greatest, ""},
		{greatest, greatest, greatest, ""},
		{0, greatest, 0, ""},
		{0, greatest, least, ""},
		{greatest, least, greatest, ""},
		{least, greatest, greatest, ""},
		{least, 0, 6, ""},
		{0, least, 6, ""},
		{least, least, greatest, ""},
		{least, least, least, ""},
	} {
		if got := impl.ShowSpan(impl.Span{From: c.from, To: c.to}, c.size); got != c.want {
			t.Errorf("ShowSpan(%d-%d, %d): %q, not %q", c.from, c.to, c.size, got, c.want)
		}
	}
	for _, wrong := range noSpans() {
		for _, size := range []int64{least, -1, 0, 1, 6, 4000, greatest} {
			if got := impl.ShowSpan(wrong, size); got != "" {
				t.Errorf("ShowSpan(%v, %d): %q", wrong, size, got)
			}
		}
	}
}

// What is shown is of a Span within size, and no two show the same.
func TestShowSpanOfAllShort(t *testing.T) {
	made := map[string]bool{}
	for size := int64(-2); size < 14; size++ {
		for from := int64(-2); from < 15; from++ {
			for to := int64(-2); to < 15; to++ {
				want := ""
				if 0 <= from && from <= to && to < size {
					want = fmt.Sprintf("bytes %d-%d/%d", from, to, size)
				}
				got := impl.ShowSpan(impl.Span{From: from, To: to}, size)
				if got != want || got != "" && made[got] {
					t.Errorf("ShowSpan(%d-%d, %d): %q, not %q", from, to, size, got, want)
				}
				made[got] = true
			}
		}
	}
}

// What is read of From and To that are shown is the Span.
func TestReadSpansOfShowSpan(t *testing.T) {
	for _, size := range []int64{1, 2, 10, 3999, 4000} {
		for _, from := range []int64{0, 1, 9, 10, 3998, 3999} {
			for _, to := range []int64{0, 1, 9, 10, 3998, 3999} {
				span := impl.Span{From: from, To: to}
				shown := impl.ShowSpan(span, size)
				if shown == "" {
					continue
				}
				ends, _, _ := strings.Cut(strings.TrimPrefix(shown, "bytes "), "/")
				checkSpans(t, "bytes="+ends, size, []impl.Span{span})
			}
		}
	}
}

func TestTotal(t *testing.T) {
	const most = 1 << 40
	for _, c := range []struct {
		list []impl.Span
		want int64
	}{
		{nil, -1},
		{spansOf(), -1},
		{spansOf(0, 0), 1},
		{spansOf(5, 5), 1},
		{spansOf(0, 9), 10},
		{spansOf(3, 7), 5},
		{spansOf(0, 1, 5, 9, 8, 9), 7},
		{spansOf(0, 3, 2, 5), 6},
		{spansOf(0, 3, 3, 5), 6},
		{spansOf(0, 3, 4, 5), 6},
		{spansOf(0, 3, 5, 5), 5},
		{spansOf(0, 9, 2, 3), 10},
		{spansOf(2, 4, 2, 4), 3},
		{spansOf(0, most-1), most},
		{spansOf(7, most+6), most},
		{spansOf(greatest-most+1, greatest), most},
		{spansOf(0, most), -1},
		{spansOf(7, most+7), -1},
		{spansOf(greatest-most, greatest), -1},
		{spansOf(0, greatest), -1},
		{spansOf(1, greatest), -1},
		{spansOf(0, greatest-1), -1},
		{spansOf(greatest, greatest), 1},
		{spansOf(0, most-1, most+1, most+1), most + 1},
		{spansOf(0, most-1, most+1, 2*most), 2 * most},
		{spansOf(0, most-1, 5, 6), most},
		{spansOf(0, most, most+2, most+2), -1},
		{spansOf(5, most+5, 0, 1), -1},
		{spansOf(0, 0, 2, most+2), -1},
		{spansOf(0, 0, 2, most+1), most + 1},
		// More than 2^40 together: where they meet they are one that has more, where they are apart none has.
		{spansOf(0, most-1, most, most), -1},
		{spansOf(0, most-1, most-1, most), -1},
		{spansOf(0, most-2, most-1, most-1), most},
		{spansOf(0, most/2, most/2+1, most), -1},
		{spansOf(0, most/2, most/2+2, most+1), most + 1},
		{spansOf(0, most/2-1, most/2, most-1), most},
		{spansOf(0, most-1, greatest-most+1, greatest), 2 * most},
		{spansOf(0, most-1, greatest-most, greatest), -1},
		{spansOf(0, 0, 0, greatest), -1},
	} {
		for _, list := range ordersOf(c.list) {
			if got := impl.Total(list); got != c.want {
				t.Errorf("Total(%v): %d, not %d", list, got, c.want)
			}
		}
	}
}

func TestTotalByCount(t *testing.T) {
	const most = 1 << 40
	for n := range int64(13) {
		apart, great := apartSpans(n), []impl.Span{}
		for i := range n {
			great = append(great, impl.Span{From: i * (most + 1), To: i*(most+1) + most - 1})
		}
		want, wantGreat := 2*n, most*n
		if n == 0 || n > 10 {
			want, wantGreat = -1, -1
		}
		if got := impl.Total(apart); got != want {
			t.Errorf("Total of %d Spans: %d", n, got)
		}
		if got := impl.Total(great); got != wantGreat {
			t.Errorf("Total of %d great Spans: %d", n, got)
		}
		for i := range great {
			one := slices.Clone(great)
			one[i].From, one[i].To = greatest-most, greatest
			if got := impl.Total(one); got != -1 {
				t.Errorf("Total of %d great Spans, one of them too great: %d", n, got)
			}
		}
	}
	if got := impl.Total(slices.Repeat(spansOf(4, 5), 11)); got != -1 {
		t.Errorf("Total of 11 equal Spans: %d", got)
	}
	for _, wrong := range noSpans() {
		for n := range 4 {
			for at := range n + 1 {
				list := slices.Insert(apartSpans(int64(n)), at, wrong)
				if got := impl.Total(list); got != -1 {
					t.Errorf("Total(%v): %d", list, got)
				}
			}
		}
	}
}

// plainTotal counts the bytes of what is merged as numbers without end.
func plainTotal(merged []impl.Span) int64 {
	all := new(big.Int)
	for _, span := range merged {
		long := new(big.Int).Sub(big.NewInt(span.To), big.NewInt(span.From))
		if long.Add(long, big.NewInt(1)).Cmp(big.NewInt(1<<40)) > 0 {
			return -1
		}
		all.Add(all, long)
	}
	if len(merged) == 0 || !all.IsInt64() {
		return -1
	}
	return all.Int64()
}

func TestTotalOfManyLists(t *testing.T) {
	told := 0
	for _, list := range mixedSpans(20000) {
		want := plainTotal(plainMerged(list))
		if got := impl.Total(list); got != want {
			t.Fatalf("Total(%v): %d, not %d", list, got, want)
		}
		if want > 0 {
			told++
		}
	}
	if told < 10000 {
		t.Errorf("%d lists only have a Total", told)
	}
	source := rand.New(rand.NewSource(12))
	ends := []int64{0, 1, 2, 1<<40 - 1, 1 << 40, 1<<40 + 1, 1<<40 + 2, 1<<41 - 1, 1 << 41, 1<<41 + 1, greatest - 1<<40, greatest - 1<<40 + 1, greatest - 1, greatest}
	for range 20000 {
		list := []impl.Span{}
		for range source.Intn(4) {
			from := source.Intn(len(ends))
			list = append(list, impl.Span{From: ends[from], To: ends[from+source.Intn(len(ends)-from)]})
		}
		if got, want := impl.Total(list), plainTotal(impl.Merged(list)); got != want {
			t.Fatalf("Total(%v): %d, not %d", list, got, want)
		}
	}
}

func TestSpanAnswersAreNewMemory(t *testing.T) {
	lists := append(mixedSpans(300), nil, spansOf(), spansOf(0, 0), spansOf(5, 9, 0, 1), apartSpans(9), apartSpans(10), apartSpans(11), noSpans()[:3], farSpans()[:4])
	for _, given := range lists {
		list := roomySpans(given)
		before := slices.Clone(list[:cap(list)])
		first, second := impl.Merged(list), impl.Merged(list)
		impl.Total(list)
		for i := range list {
			impl.ShowSpan(list[i], 100)
			impl.Cut("abcdef", list[i])
		}
		if !slices.Equal(list[:cap(list)], before) {
			t.Fatalf("%v became %v", before, list[:cap(list)])
		}
		kept := slices.Clone(second)
		for i := range first[:cap(first)] {
			first[:cap(first)][i] = impl.Span{From: -5, To: -5}
		}
		if !slices.Equal(list[:cap(list)], before) || !slices.Equal(second, kept) {
			t.Fatalf("Merged(%v) shares memory with it, or with another answer", given)
		}
	}
	for _, told := range append(spanTexts()[:300], "bytes=0-1", "bytes=0-1, 5-, -2") {
		s := strings.Clone(told)
		first, _ := impl.ReadSpans(s, 10)
		second, _ := impl.ReadSpans(s, 10)
		kept := slices.Clone(second)
		for i := range first[:cap(first)] {
			first[:cap(first)][i] = impl.Span{From: -5, To: -5}
		}
		if !slices.Equal(second, kept) || s != told {
			t.Fatalf("the answers of ReadSpans(%q) share memory", told)
		}
	}
	for _, given := range []string{"abcdef", "x", strings.Repeat("long", 1000)} {
		body := strings.Clone(given)
		for _, span := range []impl.Span{{}, {To: int64(len(body)) - 1}, {From: int64(len(body)) - 1, To: int64(len(body)) - 1}, {From: 1, To: 3}} {
			first, second := impl.Cut(body, span), impl.Cut(body, span)
			if sharesMemory(first, body) || sharesMemory(first, second) || body != given {
				t.Errorf("Cut(%.20q, %v) shares memory with it, or with another answer", given, span)
			}
		}
	}
}

// Each function answers, the same twice, whatever it is given.
func TestSpanFunctionsAnswerAtEveryArgument(t *testing.T) {
	texts := append(append(hugeTexts(), oddTexts...), mixedTexts(300, 60)...)
	texts = append(append(texts, wrongSpanTexts()...), textsOf("\x00-1,\xff", 3)...)
	for _, s := range []string{"0-1,", "-", "0", "bytes=", "\"", "\\", ",", " ", "0-"} {
		texts = append(texts, strings.Repeat(s, 50000))
	}
	sizes := []int64{least, least + 1, -4000, -1, 0, 1, 10, 3999, 4000, 4001, 1 << 40, greatest - 1, greatest}
	spans := append(append(noSpans(), farSpans()...), spansOf(0, 0, 0, 1, 2, 3, 3999, 4000)...)
	for _, told := range texts {
		for _, s := range []string{told, "bytes=" + told} {
			for _, size := range sizes {
				got, is := impl.ReadSpans(s, size)
				again, still := impl.ReadSpans(s, size)
				if is != still || is != (len(got) > 0) || !slices.Equal(got, again) || is && (size < 1 || size > 4000) {
					t.Fatalf("ReadSpans(%.60q, %d): %v, %v", s, size, got, is)
				}
			}
			for _, span := range spans {
				if got := impl.Cut(s, span); got != impl.Cut(s, span) || got != "" && int64(len(got)) != span.To-span.From+1 {
					t.Fatalf("Cut(%.60q, %v): %d bytes", s, span, len(got))
				}
			}
		}
	}
	for _, a := range spans {
		for _, size := range sizes {
			if shown := impl.ShowSpan(a, size); shown != impl.ShowSpan(a, size) || (shown != "") != (spanIs(a) && a.To < size) {
				t.Fatalf("ShowSpan(%v, %d): %q", a, size, shown)
			}
		}
		for _, b := range spans {
			for _, list := range [][]impl.Span{{a}, {a, b}, {a, b, a}, slices.Repeat([]impl.Span{a, b}, 6), slices.Repeat([]impl.Span{b}, 1000)} {
				merged, all := impl.Merged(list), impl.Total(list)
				if !slices.Equal(merged, impl.Merged(list)) || all != impl.Total(list) || (len(merged) > 0) != (len(list) <= 10 && !slices.ContainsFunc(list, func(s impl.Span) bool { return !spanIs(s) })) {
					t.Fatalf("Merged(%v): %v, Total %d", list[:2], merged, all)
				}
				if all != plainTotal(merged) {
					t.Fatalf("Merged(%v): %v, Total %d", list, merged, all)
				}
			}
		}
	}
}
