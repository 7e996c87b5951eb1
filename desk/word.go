package desk

import (
	"strconv"
	"strings"

	"mudlark/api"
)

// digits are those of \x, by what they are.
const digits = "0123456789abcdef"

// Word is bytes as a word.
func Word(b []byte) string {
	if len(b) == 0 {
		return `\e`
	}
	var out strings.Builder
	for _, c := range b {
		switch {
		case c == '\\':
			out.WriteString(`\\`)
		case c == ' ':
			out.WriteString(`\s`)
		case c == '\n':
			out.WriteString(`\n`)
		case c > ' ' && c <= '~':
			out.WriteByte(c)
		default:
			out.WriteString(`\x`)
			out.WriteByte(digits[c/16])
			out.WriteByte(digits[c%16])
		}
	}
	return out.String()
}

// Bytes are a word's bytes.
func Bytes(word string) ([]byte, bool) {
	if word == "" || strings.ContainsAny(word, " \n") {
		return nil, false
	}
	var out []byte
	for word != "" {
		b, size := first(word)
		if size == 0 {
			return nil, false
		}
		out, word = append(out, b...), word[size:]
	}
	return out, true
}

// first is the bytes of what a word begins with, and how long that is: 0, if it is wrong.
func first(word string) (b string, size int) {
	if word[0] != '\\' {
		return word[:1], 1
	}
	for _, e := range [][2]string{{`\\`, `\`}, {`\s`, " "}, {`\n`, "\n"}, {`\e`, ""}} {
		if strings.HasPrefix(word, e[0]) {
			return e[1], len(e[0])
		}
	}
	if len(word) < 4 || word[1] != 'x' {
		return "", 0
	}
	high, low := strings.IndexByte(digits, word[2]), strings.IndexByte(digits, word[3])
	if high < 0 || low < 0 {
		return "", 0
	}
	return string([]byte{byte(16*high + low)}), 4
}

// wrong is thrown where a line is none.
type wrong struct{ e api.Errno }

// must throws, if what must be is not so.
func must(ok bool) {
	if !ok {
		panic(wrong{api.ErrCommand})
	}
}

// words are those of a line that are left.
type words struct{ left []string }

// more says whether words are left.
func (w *words) more() bool {
	return len(w.left) > 0
}

// end throws, if words are left.
func (w *words) end() {
	must(!w.more())
}

// next takes the next word.
func (w *words) next() string {
	must(w.more())
	word := w.left[0]
	w.left = w.left[1:]
	return word
}

// number takes a number.
func (w *words) number() int {
	word := w.next()
	n, err := strconv.Atoi(word)
	must(err == nil && strconv.Itoa(n) == word && n >= -api.MaxNum && n <= api.MaxNum)
	return n
}

// text takes a word's bytes.
func (w *words) text() string {
	b, ok := Bytes(w.next())
	must(ok)
	return string(b)
}

// flags takes flags.
func (w *words) flags() (f api.Flags) {
	word := w.next()
	if word == "-" {
		return f
	}
	for _, letter := range []byte(word) {
		flag := flagOf(&f, letter)
		must(flag != nil && !*flag)
		*flag = true
	}
	return f
}

// flagOf is the flag of a letter, if there is one.
func flagOf(f *api.Flags, letter byte) *bool {
	switch letter {
	case 'i':
		return &f.Fold
	case 'm':
		return &f.Lines
	case 's':
		return &f.All
	}
	return nil
}
