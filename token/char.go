package token

// wordChar answers the byte that the character of a word at a place stands
// for, and the place behind it; -1 and the place itself if there is none.
func wordChar(s string, at int) (int, int) {
	c := byteAt(s, at)
	if c != '\\' {
		mark := isWordMark(c)
		return plain(c, at, mark)
	}
	behind := byteAt(s, at+1)
	mark := isWordMark(behind)
	return escaped(s, at, mark)
}

// setChar is wordChar for the characters of a set.
func setChar(s string, at int) (int, int) {
	c := byteAt(s, at)
	if c != '\\' {
		mark := isSetMark(c)
		return plain(c, at, mark)
	}
	behind := byteAt(s, at+1)
	mark := isSetMark(behind)
	return escaped(s, at, mark)
}

// isWordMark tells whether a byte stands in a word only behind a backslash.
func isWordMark(c int) bool {
	return c == '\'' || c == '\\'
}

// isSetMark tells whether a byte stands in a set only behind a backslash.
func isSetMark(c int) bool {
	return c == ']' || c == '\\' || c == '-' || c == '^' || c == '['
}

func plain(c int, at int, mark bool) (int, int) {
	if c < 32 || c > 126 || mark {
		return -1, at
	}
	return c, at + 1
}

// escaped reads the character that begins with the backslash at a place; mark
// tells that the byte behind it stands for itself there.
func escaped(s string, at int, mark bool) (int, int) {
	c := byteAt(s, at+1)
	if mark {
		return c, at + 2
	}
	if c != 'x' {
		return -1, at
	}
	high := digitAt(s, at+2)
	low := digitAt(s, at+3)
	if high < 0 || low < 0 {
		return -1, at
	}
	return high*16 + low, at + 4
}

// digitAt answers the value of the digit of base 16 at a place, -1 if none
// stands there.
func digitAt(s string, at int) int {
	c := byteAt(s, at)
	if c >= '0' && c <= '9' {
		return c - '0'
	}
	if c >= 'a' && c <= 'f' {
		return c - 'a' + 10
	}
	return -1
}
