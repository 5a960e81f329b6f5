package token

import (
	"fmt"
	"math"
	"strings"
	"testing"
)

// from: the bytes from one to another.
func from(low, high int) string {
	s := ""
	for c := low; c <= high; c++ {
		s += string([]byte{byte(c)})
	}
	return s
}

func checkBytes(t *testing.T, s string, want string) {
	t.Helper()
	for _, ahead := range []string{"", " \n", "'y' [z] "} {
		first := Next(ahead+s, len(ahead))
		if got := first.Bytes(ahead + s); got != want {
			t.Errorf("%q has the bytes %q, want %q", s, got, want)
		}
	}
}

func TestBytesOfWords(t *testing.T) {
	for s, want := range map[string]string{
		`''`: "", `'x'`: "x", `'xyx'`: "xyx", `' '`: " ", `'\''`: "'", `'\\'`: "\\", `'\\x41'`: "\\x41", `'\x41'`: "A", `'\x4142'`: "A42", `'\x00\xff\x0a'`: "\x00\xff\n", `'\x09\x90\xaf'`: "\t\x90\xaf",
		`'^[]-"'`: `^[]-"`, `'\'\\\x41\x0a'`: "'\\A\n",
	} {
		checkBytes(t, s, want)
	}
}

func TestBytesOfSets(t *testing.T) {
	for s, want := range map[string]string{
		`[x]`: "x", `[xx]`: "x", `[yx]`: "xy", `[a-c]`: "abc", `[a-a]`: "a", `[a-bb-c]`: "abc", `[xa-cb]`: "abcx", `['\\]`: `'\`, `[\]\\\-\^\[]`: `-[\]^`, `[\--0]`: "-./0", `[\[-\^]`: `[\]^`, `[\x00\xff]`: "\x00\xff", `[\x61-c]`: "abc",
		`[^b]`: from(0, 'a') + from('c', 255), `[^\x00-\x7f]`: from(128, 255), `[^\x01-\xff]`: "\x00", `[^\x00-\xfe]`: "\xff", `[^\x00-\xff]`: "", `[^\^]`: from(0, '^'-1) + from('^'+1, 255),
		`[\x00-\xff]`: from(0, 255), `.`: from(0, 255), `[^a-cb-e]`: from(0, 96) + from(102, 255),
	} {
		checkBytes(t, s, want)
	}
}

func TestBytesOfOtherTokens(t *testing.T) {
	for _, s := range []string{"a", "<-", "/", "(", "{", "", "$", "'x", "[x"} {
		checkBytes(t, s, "")
	}
	for _, kind := range []Kind{None, End, Name, Word, Set, Dot, -1, 99} {
		for _, tok := range []Token{{kind, 0, 9}, {kind, 9, 9}, {kind, 2, 1}, {kind, -1, 2}, {kind, math.MinInt, math.MaxInt}, {kind, 0, 0}, {kind, 0, 1}, {kind, 1, 3}} {
			tok.Bytes("'x'")
			tok.Bytes("")
			tok.Bytes("[^")
		}
	}
}

func TestWordsAsWritten(t *testing.T) {
	for c := 0; c < 256; c++ {
		b := string([]byte{byte(c)})
		char := fmt.Sprintf("\\x%02x", c)
		switch {
		case c == '\'' || c == '\\':
			char = "\\" + b
		case c >= 32 && c <= 126:
			char = b
		}
		if got, want := WriteWord(b), "'"+char+"'"; got != want {
			t.Errorf("the word of %q is %q, want %q", b, got, want)
		}
		if got, want := WriteWord("a"+b+b+"0"), "'a"+char+char+"0'"; got != want {
			t.Errorf("the word of %q is %q, want %q", "a"+b+b+"0", got, want)
		}
	}
	if got := WriteWord(""); got != "''" {
		t.Errorf("the empty word is %q", got)
	}
	all := from(0, 255)
	checkBytes(t, WriteWord(all), all)
}

// charOf: of a set.
func charOf(c int) string {
	if c < 32 || c > 126 {
		return fmt.Sprintf("\\x%02x", c)
	}
	if strings.IndexByte(`]\-^[`, byte(c)) >= 0 {
		return "\\" + string([]byte{byte(c)})
	}
	return string([]byte{byte(c)})
}

func checkSet(t *testing.T, list string, want string) {
	t.Helper()
	if got := WriteSet(list); got != want {
		t.Errorf("the set of %q is %q, want %q", list, got, want)
	}
	checkBytes(t, WriteSet(list), list)
}

// Each run of bytes, and all but it.
func TestRunsOfSetsAsWritten(t *testing.T) {
	members := func(low, high int) string {
		switch {
		case low > high:
			return ""
		case low == high:
			return charOf(low)
		case low+1 == high:
			return charOf(low) + charOf(high)
		}
		return charOf(low) + "-" + charOf(high)
	}
	for low := 0; low < 256; low++ {
		for high := low; high < 256; high++ {
			if low == 0 && high == 255 {
				continue
			}
			checkSet(t, from(low, high), "["+members(low, high)+"]")
			checkSet(t, from(0, low-1)+from(high+1, 255), "["+members(0, low-1)+members(high+1, 255)+"]")
		}
	}
}

func TestSetsAsWritten(t *testing.T) {
	for list, want := range map[string]string{
		"": `[^\x00-\xff]`, "ac": "[ac]", "abd": "[abd]", "acd": "[acd]", "abcd": "[a-d]", "abce": "[a-ce]", "acde": "[ac-e]", "abde": "[abde]", "abdef": "[abd-f]", "abcefg": "[a-ce-g]", "abcdfhij": "[a-dfh-j]",
		"\x00\x01": `[\x00\x01]`, "\x00\x01\x02": `[\x00-\x02]`, "\xfe\xff": `[\xfe\xff]`, "\xfd\xfe\xff": `[\xfd-\xff]`, "\x00\xff": `[\x00\xff]`, "\x00\xfe\xff": `[\x00\xfe\xff]`, "\x1f ": `[\x1f ]`, "\x1f !": `[\x1f-!]`, "~\x7f": `[~\x7f]`, "}~\x7f": `[}-\x7f]`,
		"-": `[\-]`, ",-": `[,\-]`, ",-.": `[,-.]`, "+,-": `[+-\-]`, "-./": `[\--/]`, "[\\]^": `[\[-\^]`, "[]": `[\[\]]`, "\\]": `[\\\]]`, "'": `[']`, "-[]^acx": `[\-\[\]\^acx]`,
	} {
		checkSet(t, list, want)
	}
	checkSet(t, from(0, 255), ".")
	every := ""
	want := ""
	for c := 0; c < 256; c += 2 {
		every += string([]byte{byte(c)})
		want += charOf(c)
	}
	checkSet(t, every, "["+want+"]")
}
