package token

// Bytes answers the bytes that a token of a text tells of: of a word those
// that it stands for, in order; of a set or a dot those that are in it, rising.
func (t Token) Bytes(s string) string {
	part := t.Of(s)
	switch t.Kind {
	case Word:
		return wordBytes(part)
	case Set:
		return setBytes(part)
	case Dot:
		var none [256]bool
		return bytesThat(none, false)
	}
	return ""
}

// wordBytes ends at the closing quote, since that is no character.
func wordBytes(s string) string {
	var list []byte
	c, to := wordChar(s, 1)
	for c >= 0 {
		list = append(list, byte(c))
		c, to = wordChar(s, to)
	}
	return string(list)
}

// setBytes ends at the closing bracket, since that is no member.
func setBytes(s string) string {
	at := 1
	but := byteAt(s, at) == '^'
	if but {
		at++
	}
	var in [256]bool
	low, high, to := readMember(s, at)
	for low >= 0 {
		for c := range in {
			if c >= low && c <= high {
				in[c] = true
			}
		}
		low, high, to = readMember(s, to)
	}
	return bytesThat(in, !but)
}

// bytesThat answers the bytes that are in a set, or those that are not.
func bytesThat(set [256]bool, in bool) string {
	var list []byte
	for c, is := range set {
		if is == in {
			list = append(list, byte(c))
		}
	}
	return string(list)
}
