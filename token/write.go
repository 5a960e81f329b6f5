package token

import "strconv"

// WriteWord answers the word that stands for bytes.
func WriteWord(list string) string {
	s := "'"
	for i := 0; i < len(list); i++ {
		mark := isWordMark(int(list[i]))
		s += writeChar(list[i], mark)
	}
	return s + "'"
}

// WriteSet answers the set, or the dot, that has the bytes of a list, which
// are rising.
func WriteSet(list string) string {
	switch len(list) {
	case 0:
		return `[^\x00-\xff]`
	case 256:
		return "."
	}
	s := "["
	inner := false
	for i := 0; i < len(list); i++ {
		before := inner
		inner = isInner(list, i)
		if !inner {
			mark := isSetMark(int(list[i]))
			s += writeChar(list[i], mark)
		} else if !before {
			s += "-"
		}
	}
	return s + "]"
}

// isInner tells whether a byte of a list stands between the two bytes that it
// follows and that follow it: a range has it without naming it.
func isInner(list string, i int) bool {
	if i < 1 || i+1 >= len(list) {
		return false
	}
	c := int(list[i])
	return int(list[i-1]) == c-1 && int(list[i+1]) == c+1
}

// writeChar answers the character of a word or set that stands for a byte;
// mark tells that the byte stands there only behind a backslash.
func writeChar(c byte, mark bool) string {
	if mark {
		return "\\" + string([]byte{c})
	}
	if c >= 32 && c <= 126 {
		return string([]byte{c})
	}
	digits := strconv.FormatInt(int64(c), 16)
	if c < 16 {
		digits = "0" + digits
	}
	return "\\x" + digits
}
