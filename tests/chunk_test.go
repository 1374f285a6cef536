package tests

import (
	"fmt"
	"math"
	"math/rand"
	"regexp"
	"slices"
	"strconv"
	"strings"
	"testing"

	"loop.example/g00207/impl"
)

const lastChunk = "0\r\n\r\n"

var firstChunker = impl.Chunker{State: impl.CkSize}

// wrongChunkers are not ChunkerOk, each by one thing.
func wrongChunkers() []impl.Chunker {
	var wrong []impl.Chunker
	for _, state := range []int64{0, -1, 10, 11, 100, 256 + 1, 1<<32 + 1, math.MinInt64, math.MaxInt64} {
		wrong = append(wrong, impl.Chunker{State: state}, impl.Chunker{State: state, Body: "body"})
	}
	for _, left := range []int64{-1, -4000, 4001, 1 << 32, math.MinInt64, math.MaxInt64} {
		for state := int64(impl.CkSize); state <= impl.CkBad; state++ {
			wrong = append(wrong, impl.Chunker{State: state, Left: left}, impl.Chunker{State: state, Left: left, Body: "body"})
		}
	}
	for _, state := range []int64{impl.CkSize, impl.CkDataEnd, impl.CkDataLine, impl.CkLast, impl.CkLastLine, impl.CkDone, impl.CkBad} {
		wrong = append(wrong, impl.Chunker{State: state, Left: 1}, impl.Chunker{State: state, Left: 4000})
	}
	wrong = append(wrong, impl.Chunker{State: impl.CkData}, impl.Chunker{State: impl.CkData, Body: "body"})
	for _, digits := range append([]string{"g", "G", "-1", "+1", "0x1", "1 ", " 1", "1\r", "1_0", "1.", "/", ":", "@", "`", "00000000000001", "ffffffffffffff", strings.Repeat("0", 100000)}, oddTexts...) {
		wrong = append(wrong, impl.Chunker{State: impl.CkSize, Digits: digits}, impl.Chunker{State: impl.CkSize, Digits: digits, Body: "body"})
	}
	for state := int64(impl.CkSizeEnd); state <= impl.CkBad; state++ {
		left := int64(0)
		if state == impl.CkData {
			left = 1
		}
		wrong = append(wrong, impl.Chunker{State: state, Left: left, Digits: "1"}, impl.Chunker{State: state, Left: left, Digits: "0"}, impl.Chunker{State: state, Left: left, Digits: "g"})
	}
	for state := int64(impl.CkSize); state <= impl.CkBad; state++ {
		wrong = append(wrong, impl.Chunker{State: state, Body: strings.Repeat("b", 4001)}, impl.Chunker{State: state, Body: strings.Repeat("b", 100000)})
	}
	for _, state := range []int64{impl.CkSizeEnd, impl.CkData} {
		for _, left := range []int64{1, 2, 2000, 3999, 4000} {
			wrong = append(wrong, impl.Chunker{State: state, Left: left, Body: strings.Repeat("b", 4001-int(left))}, impl.Chunker{State: state, Left: left, Body: strings.Repeat("b", 4000)})
		}
	}
	return wrong
}

// rightChunkers are ChunkerOk, with what each State may have, and its edges.
func rightChunkers() []impl.Chunker {
	var right []impl.Chunker
	bodies := []string{"", "b", "\r\n", "body\x00\xff", strings.Repeat("b", 3984), strings.Repeat("b", 3999), strings.Repeat("b", 4000)}
	for _, body := range bodies {
		for state := int64(impl.CkSize); state <= impl.CkBad; state++ {
			if state != impl.CkData {
				right = append(right, impl.Chunker{State: state, Body: body})
			}
		}
		for _, digits := range []string{"0", "1", "2", "9", "a", "F", "10", "11", "00", "fa0", "Fa1", "FFFFFFFFFFFFF", "0000000000000", "0000000000001", "000000000001", "0000000000fa0", "0000000000Fa1", "1000000000000"} {
			right = append(right, impl.Chunker{State: impl.CkSize, Digits: digits, Body: body})
		}
		for _, left := range []int64{1, 2, 16, 3999, 4000} {
			if len(body)+int(left) <= 4000 {
				right = append(right, impl.Chunker{State: impl.CkSizeEnd, Left: left, Body: body}, impl.Chunker{State: impl.CkData, Left: left, Body: body})
			}
		}
	}
	return right
}

// mixedParts are lists of parts that Chunked takes, with empty parts, digits and line ends among them; the same in each run.
func mixedParts(count int) [][]string {
	source := rand.New(rand.NewSource(5))
	const often = "\r\n\r\n01afAF;"
	lists := make([][]string, count)
	for i := range lists {
		parts := make([]string, source.Intn(101))
		for at := range parts {
			if source.Intn(4) == 0 {
				continue
			}
			var part []byte
			for range source.Intn(40) {
				if source.Intn(2) == 0 {
					part = append(part, byte(source.Intn(256)))
				} else {
					part = append(part, often[source.Intn(len(often))])
				}
			}
			parts[at] = string(part)
		}
		lists[i] = parts
	}
	return lists
}

// plainChunked tells Chunked a second time.
func plainChunked(parts []string) string {
	if len(parts) > 100 || len(strings.Join(parts, "")) > 4000 {
		return ""
	}
	text := ""
	for _, part := range parts {
		if len(part) > 0 {
			text += fmt.Sprintf("%x\r\n%s\r\n", len(part), part)
		}
	}
	return text + lastChunk
}

var isHexText = regexp.MustCompile(`^[0-9a-fA-F]*$`)

// plainChunkerOk tells ChunkerOk a second time.
func plainChunkerOk(c impl.Chunker) bool {
	mayLeft := c.State == 2 || c.State == 3
	return slices.Contains([]int64{1, 2, 3, 4, 5, 6, 7, 8, 9}, c.State) &&
		c.Left >= 0 && c.Left <= 4000 && len(c.Digits) <= 13 && isHexText.MatchString(c.Digits) &&
		int64(len(c.Body)) <= 4000-c.Left && (c.Left == 0 || mayLeft) && (c.State != 3 || c.Left > 0) &&
		(c.Digits == "" || c.State == 1)
}

// plainEat tells Eat of a Chunker that is ChunkerOk a second time.
func plainEat(c impl.Chunker, b byte) impl.Chunker {
	bad := impl.Chunker{State: 9, Body: c.Body}
	switch {
	case c.State >= 8:
		return c
	case c.State == 1 && isHexText.Match([]byte{b}) && len(c.Digits) < 13:
		return impl.Chunker{State: 1, Digits: c.Digits + string([]byte{b}), Body: c.Body}
	case c.State == 1 && b == 13 && c.Digits != "":
		size, err := strconv.ParseInt(c.Digits, 16, 64)
		if err != nil || size > 4000 || int(size)+len(c.Body) > 4000 {
			return bad
		}
		return impl.Chunker{State: 2, Left: size, Body: c.Body}
	case c.State == 2 && b == 10 && c.Left > 0:
		return impl.Chunker{State: 3, Left: c.Left, Body: c.Body}
	case c.State == 2 && b == 10:
		return impl.Chunker{State: 6, Body: c.Body}
	case c.State == 3 && c.Left == 1:
		return impl.Chunker{State: 4, Body: c.Body + string([]byte{b})}
	case c.State == 3:
		return impl.Chunker{State: 3, Left: c.Left - 1, Body: c.Body + string([]byte{b})}
	case c.State == 4 && b == 13:
		return impl.Chunker{State: 5, Body: c.Body}
	case c.State == 5 && b == 10:
		return impl.Chunker{State: 1, Body: c.Body}
	case c.State == 6 && b == 13:
		return impl.Chunker{State: 7, Body: c.Body}
	case c.State == 7 && b == 10:
		return impl.Chunker{State: 8, Body: c.Body}
	}
	return bad
}

var isSizeText = regexp.MustCompile(`^[0-9a-fA-F]{1,13}$`)

// plainUnchunked tells Unchunked a second time, by lines and not by bytes.
func plainUnchunked(text string) (string, int64, bool) {
	body, rest := "", text
	for {
		line, behind, is := strings.Cut(rest, "\r\n")
		if !is || !isSizeText.MatchString(line) {
			return "", 0, false
		}
		size, err := strconv.ParseInt(line, 16, 64)
		if err != nil || size > int64(4000-len(body)) {
			return "", 0, false
		}
		if int64(len(behind)) < size+2 || behind[size:size+2] != "\r\n" {
			return "", 0, false
		}
		body += behind[:size]
		rest = behind[size+2:]
		if size == 0 {
			return body, int64(len(text) - len(rest)), true
		}
	}
}

func TestChunkConstants(t *testing.T) {
	if impl.MaxBody != 4000 {
		t.Fatal(impl.MaxBody)
	}
	states := []int64{impl.CkSize, impl.CkSizeEnd, impl.CkData, impl.CkDataEnd, impl.CkDataLine, impl.CkLast, impl.CkLastLine, impl.CkDone, impl.CkBad}
	if !slices.Equal(states, []int64{1, 2, 3, 4, 5, 6, 7, 8, 9}) {
		t.Fatal(states)
	}
}

func TestChunked(t *testing.T) {
	for _, c := range []struct {
		parts []string
		want  string
	}{
		{nil, lastChunk},
		{[]string{}, lastChunk},
		{[]string{""}, lastChunk},
		{[]string{"", "", ""}, lastChunk},
		{[]string{"a"}, "1\r\na\r\n" + lastChunk},
		{[]string{"ab", "c"}, "2\r\nab\r\n1\r\nc\r\n" + lastChunk},
		{[]string{"", "ab", "", "", "c", ""}, "2\r\nab\r\n1\r\nc\r\n" + lastChunk},
		{[]string{"0123456789"}, "a\r\n0123456789\r\n" + lastChunk},
		{[]string{"0123456789abcde"}, "f\r\n0123456789abcde\r\n" + lastChunk},
		{[]string{"0123456789abcdef"}, "10\r\n0123456789abcdef\r\n" + lastChunk},
		{[]string{strings.Repeat("x", 255)}, "ff\r\n" + strings.Repeat("x", 255) + "\r\n" + lastChunk},
		{[]string{strings.Repeat("x", 4000)}, "fa0\r\n" + strings.Repeat("x", 4000) + "\r\n" + lastChunk},
		{[]string{"\r\n", lastChunk, "\x00\xff"}, "2\r\n\r\n\r\n5\r\n0\r\n\r\n\r\n2\r\n\x00\xff\r\n" + lastChunk},
		{[]string{"\u00e9"}, "2\r\n\u00e9\r\n" + lastChunk},
	} {
		if got := impl.Chunked(c.parts); got != c.want {
			t.Errorf("Chunked(%.40q): %.60q, not %.60q", c.parts, got, c.want)
		}
	}
	for _, parts := range mixedParts(300) {
		if got := impl.Chunked(parts); got != plainChunked(parts) {
			t.Fatalf("Chunked(%q): %q", parts, got)
		}
	}
}

func TestChunkedByCount(t *testing.T) {
	for _, part := range []string{"", "a", "ab", strings.Repeat("p", 40)} {
		for _, count := range []int{99, 100} {
			want := strings.Repeat(fmt.Sprintf("%x\r\n%s\r\n", len(part), part), count) + lastChunk
			if part == "" {
				want = lastChunk
			}
			if got := impl.Chunked(slices.Repeat([]string{part}, count)); got != want {
				t.Errorf("%d parts %q: %.60q", count, part, got)
			}
		}
	}
	for _, count := range []int{101, 102, 200, 100000} {
		if got := impl.Chunked(make([]string, count)); got != "" {
			t.Errorf("%d empty parts: %.60q", count, got)
		}
		if got := impl.Chunked(slices.Repeat([]string{"a"}, count)); got != "" {
			t.Errorf("%d parts: %.60q", count, got)
		}
	}
}

func TestChunkedByBytes(t *testing.T) {
	for _, count := range []int{1, 2, 3, 40, 99, 100} {
		for _, all := range []int{3999, 4000, 4001, 4002} {
			// The last part has what the others leave.
			parts := slices.Repeat([]string{strings.Repeat("p", 40)}, count-1)
			parts = append(parts, strings.Repeat("l", all-40*(count-1)))
			got := impl.Chunked(parts)
			if all > 4000 && got != "" || all <= 4000 && (got == "" || got != plainChunked(parts)) {
				t.Errorf("%d parts of %d bytes: %.60q", count, all, got)
			}
		}
	}
	big := strings.Repeat("p", 4000)
	for _, parts := range [][]string{{big, "a"}, {"a", big}, {big, big}, {"", big, "", "a"}, slices.Repeat([]string{big}, 100), {strings.Repeat("p", 100000)}} {
		if got := impl.Chunked(parts); got != "" {
			t.Errorf("%d parts with too many bytes: %.60q", len(parts), got)
		}
	}
	if got := impl.Chunked([]string{"", big, ""}); got != "fa0\r\n"+big+"\r\n"+lastChunk {
		t.Errorf("%.60q", got)
	}
}

func TestChunkerOk(t *testing.T) {
	for _, c := range rightChunkers() {
		if !impl.ChunkerOk(c) {
			t.Errorf("%.60q is one", fmt.Sprint(c))
		}
	}
	for _, c := range wrongChunkers() {
		if impl.ChunkerOk(c) {
			t.Errorf("%.60q is none", fmt.Sprint(c))
		}
	}
	if impl.ChunkerOk(impl.Chunker{}) || !impl.ChunkerOk(firstChunker) {
		t.Error("the zero Chunker is none, the first is one")
	}
}

func TestChunkerOkOfAll(t *testing.T) {
	lefts := []int64{math.MinInt64, -1, 0, 1, 2, 3999, 4000, 4001, math.MaxInt64 - 3999, math.MaxInt64}
	digits := []string{"", "0", "f", "F", "g", "fffffffffffff", "ffffffffffffff", "\xff", "1\x80"}
	bodies := []string{"", "b", "bb", strings.Repeat("b", 3998), strings.Repeat("b", 3999), strings.Repeat("b", 4000), strings.Repeat("b", 4001)}
	for state := int64(-2); state <= 12; state++ {
		for _, left := range lefts {
			for _, digit := range digits {
				for _, body := range bodies {
					c := impl.Chunker{State: state, Left: left, Digits: digit, Body: body}
					if got := impl.ChunkerOk(c); got != plainChunkerOk(c) {
						t.Errorf("State %d, Left %d, Digits %q, %d bytes: %v", state, left, digit, len(body), got)
					}
				}
			}
		}
	}
	for b := range 256 {
		c := impl.Chunker{State: impl.CkSize, Digits: string([]byte{byte(b)})}
		if got := impl.ChunkerOk(c); got != strings.Contains("0123456789abcdefABCDEF", c.Digits) {
			t.Errorf("Digits %q: %v", c.Digits, got)
		}
	}
}

func TestEat(t *testing.T) {
	full, less := strings.Repeat("b", 4000), strings.Repeat("b", 3999)
	for _, c := range []struct {
		from impl.Chunker
		b    byte
		to   impl.Chunker
	}{
		{firstChunker, '5', impl.Chunker{State: 1, Digits: "5"}},
		{firstChunker, '0', impl.Chunker{State: 1, Digits: "0"}},
		{impl.Chunker{State: 1, Digits: "0", Body: "x"}, 'a', impl.Chunker{State: 1, Digits: "0a", Body: "x"}},
		{impl.Chunker{State: 1, Digits: "a"}, 'F', impl.Chunker{State: 1, Digits: "aF"}},
		{impl.Chunker{State: 1, Digits: "000000000000"}, '1', impl.Chunker{State: 1, Digits: "0000000000001"}},
		{impl.Chunker{State: 1, Digits: "0000000000001"}, '1', impl.Chunker{State: 9}},
		{impl.Chunker{State: 1, Digits: "0000000000000", Body: "x"}, '0', impl.Chunker{State: 9, Body: "x"}},
		{firstChunker, 13, impl.Chunker{State: 9}},
		{impl.Chunker{State: 1, Body: "x"}, 13, impl.Chunker{State: 9, Body: "x"}},
		{firstChunker, 10, impl.Chunker{State: 9}},
		{impl.Chunker{State: 1, Digits: "1"}, 10, impl.Chunker{State: 9}},
		{impl.Chunker{State: 1, Digits: "1", Body: "x"}, 'g', impl.Chunker{State: 9, Body: "x"}},
		{impl.Chunker{State: 1, Digits: "1"}, ';', impl.Chunker{State: 9}},
		{impl.Chunker{State: 1, Digits: "1"}, ' ', impl.Chunker{State: 9}},
		{impl.Chunker{State: 1, Digits: "0aF", Body: "x"}, 13, impl.Chunker{State: 2, Left: 175, Body: "x"}},
		{impl.Chunker{State: 1, Digits: "0000000000005"}, 13, impl.Chunker{State: 2, Left: 5}},
		{impl.Chunker{State: 1, Digits: "0"}, 13, impl.Chunker{State: 2}},
		{impl.Chunker{State: 1, Digits: "0000000000000", Body: "x"}, 13, impl.Chunker{State: 2, Body: "x"}},
		{impl.Chunker{State: 1, Digits: "fa0"}, 13, impl.Chunker{State: 2, Left: 4000}},
		{impl.Chunker{State: 1, Digits: "fa1"}, 13, impl.Chunker{State: 9}},
		{impl.Chunker{State: 1, Digits: "1", Body: less}, 13, impl.Chunker{State: 2, Left: 1, Body: less}},
		{impl.Chunker{State: 1, Digits: "2", Body: less}, 13, impl.Chunker{State: 9, Body: less}},
		{impl.Chunker{State: 1, Digits: "0", Body: full}, 13, impl.Chunker{State: 2, Body: full}},
		{impl.Chunker{State: 1, Digits: "1", Body: full}, 13, impl.Chunker{State: 9, Body: full}},
		{impl.Chunker{State: 1, Digits: "fffffffffffff"}, 13, impl.Chunker{State: 9}},
		{impl.Chunker{State: 2, Left: 7, Body: "x"}, 10, impl.Chunker{State: 3, Left: 7, Body: "x"}},
		{impl.Chunker{State: 2, Body: "x"}, 10, impl.Chunker{State: 6, Body: "x"}},
		{impl.Chunker{State: 2, Left: 7, Body: "x"}, 13, impl.Chunker{State: 9, Body: "x"}},
		{impl.Chunker{State: 2, Body: "x"}, 'a', impl.Chunker{State: 9, Body: "x"}},
		{impl.Chunker{State: 3, Left: 2, Body: "x"}, 'y', impl.Chunker{State: 3, Left: 1, Body: "xy"}},
		{impl.Chunker{State: 3, Left: 1, Body: "x"}, 'y', impl.Chunker{State: 4, Body: "xy"}},
		{impl.Chunker{State: 3, Left: 1}, 13, impl.Chunker{State: 4, Body: "\r"}},
		{impl.Chunker{State: 3, Left: 2}, 10, impl.Chunker{State: 3, Left: 1, Body: "\n"}},
		{impl.Chunker{State: 3, Left: 1}, 0xc3, impl.Chunker{State: 4, Body: "\xc3"}},
		{impl.Chunker{State: 3, Left: 1, Body: less}, 'b', impl.Chunker{State: 4, Body: full}},
		{impl.Chunker{State: 4, Body: "x"}, 13, impl.Chunker{State: 5, Body: "x"}},
		{impl.Chunker{State: 4, Body: "x"}, 10, impl.Chunker{State: 9, Body: "x"}},
		{impl.Chunker{State: 5, Body: "x"}, 10, impl.Chunker{State: 1, Body: "x"}},
		{impl.Chunker{State: 5, Body: "x"}, 13, impl.Chunker{State: 9, Body: "x"}},
		{impl.Chunker{State: 6, Body: "x"}, 13, impl.Chunker{State: 7, Body: "x"}},
		{impl.Chunker{State: 6, Body: "x"}, 10, impl.Chunker{State: 9, Body: "x"}},
		{impl.Chunker{State: 6, Body: "x"}, 'a', impl.Chunker{State: 9, Body: "x"}},
		{impl.Chunker{State: 7, Body: "x"}, 10, impl.Chunker{State: 8, Body: "x"}},
		{impl.Chunker{State: 7, Body: "x"}, 13, impl.Chunker{State: 9, Body: "x"}},
	} {
		if got := impl.Eat(c.from, c.b); got != c.to {
			t.Errorf("Eat(%.60q, %d): %.60q", fmt.Sprint(c.from), c.b, fmt.Sprint(got))
		}
	}
}

func TestEatOfEachByteInEachState(t *testing.T) {
	for _, c := range rightChunkers() {
		for b := range 256 {
			got := impl.Eat(c, byte(b))
			if got != plainEat(c, byte(b)) {
				t.Fatalf("Eat(%.60q, %d): %.60q", fmt.Sprint(c), b, fmt.Sprint(got))
			}
			if !impl.ChunkerOk(got) {
				t.Fatalf("Eat(%.60q, %d) is not ChunkerOk: %.60q", fmt.Sprint(c), b, fmt.Sprint(got))
			}
		}
	}
}

func TestDoneAndBadStay(t *testing.T) {
	for _, state := range []int64{impl.CkDone, impl.CkBad} {
		for _, body := range []string{"", "x", strings.Repeat("b", 4000)} {
			c := impl.Chunker{State: state, Body: body}
			for b := range 256 {
				if got := impl.Eat(c, byte(b)); got != c {
					t.Errorf("State %d with a byte %d: %.60q", state, b, fmt.Sprint(got))
				}
			}
			for _, text := range []string{"", "a", "\r\n", lastChunk, "1\r\na\r\n"} {
				if got, eaten := impl.EatAll(c, text); got != c || eaten != 0 {
					t.Errorf("State %d with %q: %.60q, %d", state, text, fmt.Sprint(got), eaten)
				}
			}
		}
	}
}

func TestEatAll(t *testing.T) {
	big := strings.Repeat("b", 4000)
	for _, c := range []struct {
		from  impl.Chunker
		text  string
		to    impl.Chunker
		eaten int64
	}{
		{firstChunker, "", firstChunker, 0},
		{impl.Chunker{State: 3, Left: 2, Body: "x"}, "", impl.Chunker{State: 3, Left: 2, Body: "x"}, 0},
		{impl.Chunker{State: 1, Digits: "aF"}, "", impl.Chunker{State: 1, Digits: "aF"}, 0},
		{firstChunker, "1", impl.Chunker{State: 1, Digits: "1"}, 1},
		{firstChunker, "1\r", impl.Chunker{State: 2, Left: 1}, 2},
		{firstChunker, "1\r\n", impl.Chunker{State: 3, Left: 1}, 3},
		{firstChunker, "1\r\na", impl.Chunker{State: 4, Body: "a"}, 4},
		{firstChunker, "1\r\na\r", impl.Chunker{State: 5, Body: "a"}, 5},
		{firstChunker, "1\r\na\r\n", impl.Chunker{State: 1, Body: "a"}, 6},
		{firstChunker, "1\r\na\r\n0", impl.Chunker{State: 1, Digits: "0", Body: "a"}, 7},
		{firstChunker, "1\r\na\r\n0\r", impl.Chunker{State: 2, Body: "a"}, 8},
		{firstChunker, "1\r\na\r\n0\r\n", impl.Chunker{State: 6, Body: "a"}, 9},
		{firstChunker, "1\r\na\r\n0\r\n\r", impl.Chunker{State: 7, Body: "a"}, 10},
		{firstChunker, "1\r\na\r\n0\r\n\r\n", impl.Chunker{State: 8, Body: "a"}, 11},
		{firstChunker, "1\r\na\r\n0\r\n\r\n\r\n", impl.Chunker{State: 8, Body: "a"}, 11},
		{firstChunker, "1\r\na\r\n0\r\n\r\n1\r\nb", impl.Chunker{State: 8, Body: "a"}, 11},
		{firstChunker, "1\r\nab\r\n", impl.Chunker{State: 9, Body: "a"}, 5},
		{firstChunker, "2\r\na\r\n", impl.Chunker{State: 9, Body: "a\r"}, 6},
		{firstChunker, "3\r\na\r\n", impl.Chunker{State: 4, Body: "a\r\n"}, 6},
		{firstChunker, "g0\r\n\r\n", impl.Chunker{State: 9}, 1},
		{firstChunker, "\r\n", impl.Chunker{State: 9}, 1},
		{firstChunker, "1\n", impl.Chunker{State: 9}, 2},
		{firstChunker, "00000000000000", impl.Chunker{State: 9}, 14},
		{firstChunker, "0000000000000\r\n", impl.Chunker{State: 6}, 15},
		{firstChunker, "fa1\r\nx", impl.Chunker{State: 9}, 4},
		{firstChunker, "fa0\r\n" + big, impl.Chunker{State: 4, Body: big}, 4005},
		{firstChunker, "fa0\r\n" + big + "\r\n1\r\n", impl.Chunker{State: 9, Body: big}, 4009},
		{firstChunker, "fa0\r\n" + big + "\r\n00\r\n\r\n0", impl.Chunker{State: 8, Body: big}, 4013},
		{firstChunker, "0\r\na: b\r\n\r\n", impl.Chunker{State: 9}, 4},
		{firstChunker, "1;a=b\r\nx", impl.Chunker{State: 9}, 2},
		{impl.Chunker{State: 1, Digits: "1", Body: "x"}, "0\r\ny", impl.Chunker{State: 3, Left: 15, Body: "xy"}, 4},
		{impl.Chunker{State: 7, Body: "x"}, "\nmore", impl.Chunker{State: 8, Body: "x"}, 1},
	} {
		if got, eaten := impl.EatAll(c.from, c.text); got != c.to || eaten != c.eaten {
			t.Errorf("EatAll(%.60q, %.40q): %.60q, %d", fmt.Sprint(c.from), c.text, fmt.Sprint(got), eaten)
		}
	}
}

// chunkTexts go on from any State, some of them to CkDone or CkBad and further.
func chunkTexts() []string {
	texts := append([]string{"", "\r", "\n", "\n1\r\nx\r\n" + lastChunk + "behind", "\r\n0\r\n\r\n0", "0\r\n\r\n\r\n", "fa0\r\nab", "yz\r\n2\r\n\r\n\r\n", "00000000000000"}, textsOf("\r\n0a", 4)...)
	for _, parts := range mixedParts(5) {
		texts = append(texts, plainChunked(parts)+"behind")
	}
	return texts
}

func TestEatAllIsEatByteByByte(t *testing.T) {
	for _, from := range rightChunkers() {
		for _, text := range chunkTexts() {
			want, count := from, 0
			for count < len(text) && want.State != impl.CkDone && want.State != impl.CkBad {
				want = plainEat(want, text[count])
				count++
			}
			if got, eaten := impl.EatAll(from, text); got != want || eaten != int64(count) {
				t.Fatalf("EatAll(%.60q, %.40q): %.60q, %d", fmt.Sprint(from), text, fmt.Sprint(got), eaten)
			}
		}
	}
}

func TestEatAllHoweverTheTextComes(t *testing.T) {
	for _, parts := range mixedParts(20) {
		text := impl.Chunked(parts[:len(parts)/4]) + "behind"
		want, count := impl.EatAll(firstChunker, text)
		for cut := range text {
			half, first := impl.EatAll(firstChunker, text[:cut])
			got, second := impl.EatAll(half, text[cut:])
			if got != want || first+second != count {
				t.Fatalf("%q cut at %d: %v, %d and %d", text, cut, got, first, second)
			}
		}
	}
}

func TestNothingIsEatenByAWrongChunker(t *testing.T) {
	for _, c := range wrongChunkers() {
		for _, b := range []byte{0, 10, 13, '0', 'a', 'g', 255} {
			if got := impl.Eat(c, b); got != (impl.Chunker{}) {
				t.Errorf("Eat(%.60q, %d): %.60q", fmt.Sprint(c), b, fmt.Sprint(got))
			}
		}
		for _, text := range []string{"", "\n", "\r", "0", lastChunk, "x\r\n", "\r\n\r\n"} {
			if got, eaten := impl.EatAll(c, text); got != (impl.Chunker{}) || eaten != 0 {
				t.Errorf("EatAll(%.60q, %q): %.60q, %d", fmt.Sprint(c), text, fmt.Sprint(got), eaten)
			}
		}
	}
}

// partings cut a body in several ways; each has at most 100 parts.
func partings(body string) [][]string {
	all := [][]string{{body}, {"", body}, {body, ""}}
	for _, size := range []int{1, 2, 7, 16, 40, 41} {
		var parts []string
		rest := body
		for len(parts) < 99 && len(rest) > size {
			parts = append(parts, rest[:size])
			rest = rest[size:]
		}
		all = append(all, append(parts, rest))
	}
	for cut := 0; cut <= len(body); cut += 1 + len(body)/20 {
		all = append(all, []string{body[:cut], body[cut:]}, []string{"", body[:cut], "", body[cut:]})
	}
	return all
}

func TestUnchunkedOfChunked(t *testing.T) {
	bodies := append([]string{"", "a", "\r\n", lastChunk, "1\r\na\r\n" + lastChunk, strings.Repeat("b", 3999), strings.Repeat("\r\n", 2000)}, oddTexts...)
	for _, parts := range mixedParts(30) {
		bodies = append(bodies, strings.Join(parts, ""))
	}
	for _, body := range bodies {
		for _, parts := range partings(body) {
			text := impl.Chunked(parts)
			for _, behind := range []string{"", "\r\n", "0", lastChunk, "GET / HTTP/1.1\r\n", "\x00"} {
				got, eaten, is := impl.Unchunked(text + behind)
				if !is || got != body || eaten != int64(len(text)) {
					t.Fatalf("%.60q in %d parts, with %q behind: %.60q, %d, %v", body, len(parts), behind, got, eaten, is)
				}
			}
		}
	}
	for _, parts := range mixedParts(300) {
		text := impl.Chunked(parts)
		if got, eaten, is := impl.Unchunked(text); !is || got != strings.Join(parts, "") || eaten != int64(len(text)) {
			t.Fatalf("%q: %q, %d, %v", parts, got, eaten, is)
		}
	}
}

func TestUnchunkedOfEachBeginning(t *testing.T) {
	lists := append(mixedParts(20), nil, []string{""}, []string{"a"}, []string{lastChunk}, []string{strings.Repeat("b", 4000)})
	for _, parts := range lists {
		text := impl.Chunked(parts)
		for end := range text {
			if got, eaten, is := impl.Unchunked(text[:end]); is || got != "" || eaten != 0 {
				t.Fatalf("the first %d bytes of %.60q: %.60q, %d, %v", end, text, got, eaten, is)
			}
		}
	}
}

func TestUnchunked(t *testing.T) {
	big := strings.Repeat("b", 4000)
	ones := strings.Repeat("0000000000001\r\nb\r\n", 4000)
	for _, c := range []struct {
		text  string
		body  string
		eaten int64
	}{
		{lastChunk, "", 5},
		{"00\r\n\r\n", "", 6},
		{"0000000000000\r\n\r\n", "", 17},
		{"A\r\n0123456789\r\n0\r\n\r\n", "0123456789", 20},
		{"0a\r\n0123456789\r\n0\r\n\r\n", "0123456789", 21},
		{"1\r\na\r\n01\r\nb\r\n000\r\n\r\nbehind", "ab", 20},
		{"fa0\r\n" + big + "\r\n" + lastChunk, big, 4012},
		{"f9f\r\n" + big[1:] + "\r\n1\r\nb\r\n" + lastChunk, big, 4017},
		{ones + lastChunk, big, 72005},
	} {
		if got, eaten, is := impl.Unchunked(c.text); !is || got != c.body || eaten != c.eaten {
			t.Errorf("Unchunked(%.60q): %.60q, %d, %v", c.text, got, eaten, is)
		}
	}
	for _, text := range append([]string{
		"", "0", "0\r", "0\r\n", "0\r\n\r", "0\n\n", "0\r\r\n\n", "\r\n", "\r\n\r\n", "\r\n" + lastChunk, "g\r\n\r\n", "x", "-0\r\n\r\n", "+0\r\n\r\n",
		"0x0\r\n\r\n", " 0\r\n\r\n", "0 \r\n\r\n", "0;a\r\n\r\n", "0\r\na: b\r\n\r\n", "00000000000000\r\n\r\n", "1\r\n\r\n" + lastChunk, "1\r\nab\r\n" + lastChunk,
		"2\r\na\r\n" + lastChunk, "1\r\na" + lastChunk, "1\r\na\n" + lastChunk, "1\r\na\r" + lastChunk, "1\na\r\n" + lastChunk, "1\r\na\r\n", "1\r\na\r\n\r\n",
		"fa1\r\n" + big + "b\r\n" + lastChunk, "fa0\r\n" + big + "\r\n1\r\nb\r\n" + lastChunk, ones + "1\r\nb\r\n" + lastChunk, "fffffffffffff\r\n" + big, "1000000000000\r\n" + big,
	}, oddTexts...) {
		if got, eaten, is := impl.Unchunked(text); is || got != "" || eaten != 0 {
			t.Errorf("Unchunked(%.60q): %.60q, %d, %v", text, got, eaten, is)
		}
	}
}

// nearTexts are a text with one byte out, one in, or one that is another.
func nearTexts(text string) []string {
	var texts []string
	for at := range text {
		texts = append(texts, text[:at]+text[at+1:])
		for _, b := range []string{"\r", "\n", "0", "1", "f", "g", " ", "\x8d"} {
			texts = append(texts, text[:at]+b+text[at:], text[:at]+b+text[at+1:])
		}
	}
	return texts
}

func TestUnchunkedOfManyTexts(t *testing.T) {
	var texts []string
	pieces := []string{"0", "1", "A", "\r\n", "\r", "\n", "1\r\nx\r\n", lastChunk}
	from := []string{""}
	for range 5 {
		var longer []string
		for _, text := range from {
			for _, piece := range pieces {
				longer = append(longer, text+piece)
			}
		}
		texts = append(texts, longer...)
		from = longer
	}
	for _, parts := range mixedParts(40) {
		texts = append(texts, nearTexts(impl.Chunked(parts[:len(parts)/20]))...)
	}
	read := 0
	for _, text := range texts {
		got, eaten, is := impl.Unchunked(text)
		want, count, right := plainUnchunked(text)
		if got != want || eaten != count || is != right {
			t.Fatalf("Unchunked(%q): %q, %d, %v", text, got, eaten, is)
		}
		if is {
			read++
		}
	}
	if read < 1000 || read > len(texts)-1000 {
		t.Errorf("%d of %d texts were read", read, len(texts))
	}
}

func TestChunkAnswersAreNewMemory(t *testing.T) {
	for _, given := range append(rightChunkers(), wrongChunkers()...) {
		c := impl.Chunker{State: given.State, Left: given.Left, Digits: strings.Clone(given.Digits), Body: strings.Clone(given.Body)}
		text := strings.Clone("\r\n0\r\nxyz\r\n\r\n")
		impl.ChunkerOk(c)
		all, _ := impl.EatAll(c, text)
		none, _ := impl.EatAll(c, "")
		for i, answer := range []impl.Chunker{all, none, impl.Eat(c, '1'), impl.Eat(c, 13), impl.Eat(c, 10)} {
			for _, told := range []string{answer.Digits, answer.Body} {
				if sharesMemory(told, c.Digits) || sharesMemory(told, c.Body) || sharesMemory(told, text) {
					t.Fatalf("answer %d of %.60q shares memory with it", i, fmt.Sprint(c))
				}
			}
		}
		if c != given || text != "\r\n0\r\nxyz\r\n\r\n" {
			t.Fatalf("%.60q became %.60q", fmt.Sprint(given), fmt.Sprint(c))
		}
	}
	for _, s := range []string{"5\r\nhello\r\n" + lastChunk, "fa0\r\n" + strings.Repeat("b", 4000) + "\r\n" + lastChunk} {
		text := strings.Clone(s)
		body, _, _ := impl.Unchunked(text)
		if body == "" || sharesMemory(body, text) || text != s {
			t.Errorf("Unchunked(%.20q) shares memory with it", s)
		}
	}
}

func TestChunkedLeavesItsParts(t *testing.T) {
	for _, given := range append(mixedParts(50), []string{"a"}, []string{"hello"}, []string{""}, make([]string, 101), []string{strings.Repeat("b", 4001)}) {
		all := make([]string, len(given)+5)
		for i := range all {
			all[i] = "behind"
		}
		for i, part := range given {
			all[i] = strings.Clone(part)
		}
		before := slices.Clone(all)
		parts := all[:len(given)]
		text := impl.Chunked(parts)
		for i := range all {
			if all[i] != before[i] || sharesMemory(text, all[i]) {
				t.Fatalf("part %d of %.60q: %.40q", i, given, all[i])
			}
		}
	}
}

// Each function answers, the same twice, whatever it is given.
func TestChunkFunctionsAnswerAtEveryArgument(t *testing.T) {
	texts := append([]string{"", "0", "\r", "\n", lastChunk}, oddTexts...)
	for _, s := range []string{"0", "f", "\r\n", "1\r\nb\r\n", lastChunk, "\x00", "\xff"} {
		texts = append(texts, strings.Repeat(s, 50000), "fa0\r\n"+strings.Repeat(s, 50000))
	}
	for _, c := range append(rightChunkers(), wrongChunkers()...) {
		for _, text := range texts {
			first, eaten := impl.EatAll(c, text)
			again, too := impl.EatAll(c, text)
			if first != again || eaten != too || eaten < 0 || eaten > int64(len(text)) {
				t.Fatalf("EatAll(%.60q, %.20q): %d and %d", fmt.Sprint(c), text, eaten, too)
			}
			if impl.ChunkerOk(first) != impl.ChunkerOk(c) {
				t.Fatalf("EatAll(%.60q, %.20q): %.60q", fmt.Sprint(c), text, fmt.Sprint(first))
			}
		}
	}
	for _, text := range append(texts, mixedTexts(1000, 30)...) {
		body, eaten, is := impl.Unchunked(text)
		again, too, still := impl.Unchunked(text)
		if body != again || eaten != too || is != still || !is && (body != "" || eaten != 0) {
			t.Fatalf("Unchunked(%.20q): %.20q, %d, %v", text, body, eaten, is)
		}
		for _, parts := range [][]string{{text}, {text, text}, slices.Repeat([]string{text}, 100), slices.Repeat([]string{text}, 101)} {
			if got := impl.Chunked(parts); got != plainChunked(parts) {
				t.Fatalf("Chunked of %d parts %.20q: %.40q", len(parts), text, got)
			}
		}
	}
}
