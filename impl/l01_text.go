package impl

import (
	"strconv"
	"strings"
)

const MaxValue = 400

const maxToken = 64
const maxDigits = 15
const maxHexDigits = 13
const maxHex = 1 << 52

func TokenOk(s string) bool {
	if len(s) < 1 || len(s) > maxToken {
		return false
	}
	for _, r := range s {
		if !isTokenRune(r) {
			return false
		}
	}
	return true
}

func isTokenRune(r rune) bool {
	switch {
	case 'a' <= r && r <= 'z', 'A' <= r && r <= 'Z', '0' <= r && r <= '9':
		return true
	}
	switch r {
	case '!', '#', '$', '%', '&', '\'', '*', '+', '-', '.', '^', '_', '|', '~', '`':
		return true
	}
	return false
}

func VisibleOk(s string) bool {
	if len(s) > MaxValue {
		return false
	}
	// A byte above 126 is never a rune of its own from 32 to 126, so runes tell what bytes would.
	for _, r := range s {
		if r != '\t' && (r < 32 || r > 126) {
			return false
		}
	}
	return true
}

func Lower(s string) string {
	lowered := []byte(s)
	// The bytes of a longer rune, or of none, stay as they are: only a rune of one byte is a capital.
	for at, r := range s {
		if 'A' <= r && r <= 'Z' {
			lowered[at] = byte(r) + 'a' - 'A'
		}
	}
	return string(lowered)
}

func Trimmed(s string) string {
	// A piece of s would share its memory.
	return strings.Clone(strings.Trim(s, " \t"))
}

func Quoted(s string) string {
	if !VisibleOk(s) {
		return ""
	}
	quoted := []byte{'"'}
	for at, r := range s {
		if r == '"' || r == '\\' {
			quoted = append(quoted, '\\')
		}
		quoted = append(quoted, s[at])
	}
	return string(append(quoted, '"'))
}

func Unquoted(s string) (string, bool) {
	var text []byte
	at := 1
	if !strings.HasPrefix(s, "\"") {
		goto none
	}

open:
	if at >= len(s) {
		goto none
	}
	at++
	switch s[at-1] {
	case '"':
		goto closed
	case '\\':
		goto taken
	}
	text = append(text, s[at-1])
	goto open

taken:
	// Quoted puts a byte 92 ahead of these two alone; with another one the text is not of its making.
	if at >= len(s) || s[at] != '"' && s[at] != '\\' {
		goto none
	}
	text = append(text, s[at])
	at++
	goto open

closed:
	if at == len(s) && VisibleOk(string(text)) {
		return string(text), true
	}

none:
	return "", false
}

func Items(s string) []string {
	items := []string{}
	from, at := 0, 0
	if !VisibleOk(s) {
		return items
	}

closed:
	if at >= len(s) {
		goto end
	}
	at++
	switch s[at-1] {
	case '"':
		goto open
	case ',':
		items = withItem(items, s[from:at-1])
		from = at
	}
	goto closed

open:
	if at >= len(s) {
		goto end
	}
	at++
	switch s[at-1] {
	case '"':
		goto closed
	case '\\':
		goto taken
	}
	goto open

taken:
	// There may be no byte to take along; then at lies one past the end, which open minds.
	at++
	goto open

end:
	return withItem(items, s[from:])
}

func withItem(items []string, part string) []string {
	item := Trimmed(part)
	if item == "" {
		return items
	}
	return append(items, item)
}

func Digits(s string) (int64, bool) {
	return numberOf(s, 10, maxDigits)
}

func Hex(n int64) string {
	if n < 0 || n > maxHex {
		return ""
	}
	return strconv.FormatInt(n, 16)
}

func HexDigits(s string) (int64, bool) {
	return numberOf(s, 16, maxHexDigits)
}

func numberOf(s string, base int64, most int) (int64, bool) {
	if len(s) < 1 || len(s) > most {
		return 0, false
	}
	number := int64(0)
	for _, r := range s {
		digit := digitValue(r)
		if digit < 0 || digit >= base {
			return 0, false
		}
		number = number*base + digit
	}
	return number, true
}

func digitValue(r rune) int64 {
	switch {
	case '0' <= r && r <= '9':
		return int64(r - '0')
	case 'a' <= r && r <= 'f':
		return int64(r-'a') + 10
	case 'A' <= r && r <= 'F':
		return int64(r-'A') + 10
	}
	return -1
}
