package base

import (
	"strings"

	"cloak/api"
)

// signs are all signs. The long ones come first, so that the first one that stands at a byte is the longest.
var signs = [...]string{
	"..", "!=", "<=", ">=",
	"(", ")", "{", "}", ",", ";", ":", ".", "=", "<", ">", "+", "-", "*", "/",
}

func isBlank(c byte) bool { return c == 9 || c == 10 || c == 32 }

func isLetter(c byte) bool { return c >= 'a' && c <= 'z' || c >= 'A' && c <= 'Z' }

func isDigit(c byte) bool { return c >= '0' && c <= '9' }

func isNameByte(c byte) bool { return isLetter(c) || isDigit(c) || c == '_' }

func isQuotable(c byte) bool { return c >= 32 && c <= 126 }

func isNotLineEnd(c byte) bool { return c != 10 }

// span returns the number of bytes at the beginning of s that are in a class.
func span(s string, class func(byte) bool) int {
	n := 0
	for n < len(s) && class(s[n]) {
		n++
	}
	return n
}

// skip returns the number of bytes at the beginning of s that are blanks or in comments.
func skip(s string) int {
	n := span(s, isBlank)
	for n < len(s) && s[n] == '#' {
		n += span(s[n:], isNotLineEnd)
		n += span(s[n:], isBlank)
	}
	return n
}

// Scan returns the tokens of a source text, or the offset of the first error.
func Scan(s string) ([]api.Token, int, api.Errno) {
	if len(s) > api.MaxSource {
		return nil, 0, api.ErrFull
	}
	var list []api.Token
	for at := skip(s); at < len(s); at += skip(s[at:]) {
		token, size, e := firstToken(s[at:])
		if e != api.OK {
			return nil, at, e
		}
		token.Pos = at
		list = append(list, token)
		at += size
	}
	return list, 0, api.OK
}

// firstToken returns the token at the beginning of s, and how many bytes it has there.
func firstToken(s string) (api.Token, int, api.Errno) {
	switch c := s[0]; {
	case isLetter(c):
		text := s[:span(s, isNameByte)]
		if !Name(text) {
			return api.Token{}, 0, api.ErrRange
		}
		return api.Token{Kind: api.TkName, Text: text}, len(text), api.OK
	case isDigit(c):
		text := s[:span(s, isDigit)]
		n, ok := Number(text)
		if !ok {
			return api.Token{}, 0, api.ErrRange
		}
		return api.Token{Kind: api.TkNumber, Text: text, N: n}, len(text), api.OK
	case c == '"':
		value, size, ok := unquote(s)
		if !ok {
			return api.Token{}, 0, api.ErrForm
		}
		return api.Token{Kind: api.TkString, Text: value}, size, api.OK
	}
	for _, sign := range signs {
		if strings.HasPrefix(s, sign) {
			return api.Token{Kind: api.TkSign, Text: sign}, len(sign), api.OK
		}
	}
	return api.Token{}, 0, api.ErrToken
}

// unquote returns the value of the quoted string at the beginning of s, and how many bytes it has there.
func unquote(s string) (string, int, bool) {
	var value strings.Builder
	for i := 1; i < len(s); i++ {
		switch s[i] {
		case '"':
			return value.String(), i + 1, isValue(value.String())
		case '\\':
			i++
			if i == len(s) || s[i] != '"' && s[i] != '\\' {
				return "", 0, false
			}
		}
		value.WriteByte(s[i])
	}
	return "", 0, false
}

// isValue reports whether s is a valid value of a quoted string.
func isValue(s string) bool {
	return len(s) <= api.MaxQuoted && span(s, isQuotable) == len(s)
}

// quoted returns s between quotes, with escapes.
func quoted(s string) string {
	s = strings.ReplaceAll(s, `\`, `\\`)
	s = strings.ReplaceAll(s, `"`, `\"`)
	return `"` + s + `"`
}

// Print returns tokens as text.
func Print(l []api.Token) string {
	var b strings.Builder
	for i, token := range l {
		if i > 0 {
			b.WriteByte(' ')
		}
		if token.Kind == api.TkString {
			b.WriteString(quoted(token.Text))
		} else {
			b.WriteString(token.Text)
		}
	}
	return b.String()
}

// Quote returns the quoted string with a value.
func Quote(s string) (string, bool) {
	if !isValue(s) {
		return "", false
	}
	return quoted(s), true
}

// Name reports whether a string is a valid name.
func Name(s string) bool {
	return s != "" && len(s) <= api.MaxName && isLetter(s[0]) && span(s, isNameByte) == len(s)
}

// Number returns the value of a valid number.
func Number(s string) (int, bool) {
	n, ok := canonical(s)
	if !ok || n < 0 || n > api.MaxNumber {
		return 0, false
	}
	return n, true
}
