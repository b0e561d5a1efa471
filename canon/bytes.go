package canon

import (
	"strings"

	"outlaw/api"
	"outlaw/json"
	"outlaw/scan"
)

// Bytes returns the text of the canonical form of v.
func Bytes(v api.Json) (string, api.Errno) {
	if e := json.Check(v); e != api.OK {
		return "", e
	}
	var b strings.Builder
	write(&b, &v)
	return b.String(), api.OK
}

// Compare compares the bytes of a and b, of which what is not valid has none.
func Compare(a, b api.Json) int {
	bytesA, _ := Bytes(a)
	bytesB, _ := Bytes(b)
	return strings.Compare(bytesA, bytesB)
}

// Is reports whether s is the bytes of some value: then they are those of the
// value that is read from it.
func Is(s string) bool {
	v, e := json.Parse(s)
	if e != api.OK {
		return false
	}
	bytes, e := Bytes(v)
	return e == api.OK && bytes == s
}

// write writes a value that has been checked: that is why it may call itself,
// and why its numbers and texts have no errors.
func write(b *strings.Builder, v *api.Json) {
	switch v.Kind {
	case api.JsonNull:
		b.WriteString("null")
	case api.JsonBool:
		writeBool(b, v.N)
	case api.JsonNumber:
		digits, _ := scan.Number(v.N)
		b.WriteString(digits)
	case api.JsonText:
		writeText(b, v.Text)
	case api.JsonList:
		writeList(b, v)
	case api.JsonObject:
		writeObject(b, v)
	}
}

func writeBool(b *strings.Builder, n int64) {
	if n == 0 {
		b.WriteString("false")
		return
	}
	b.WriteString("true")
}

func writeText(b *strings.Builder, s string) {
	literal, _ := scan.Quote(s)
	b.WriteString(literal)
}

func writeList(b *strings.Builder, v *api.Json) {
	b.WriteByte('[')
	for i := range v.Items {
		writeComma(b, i)
		write(b, &v.Items[i])
	}
	b.WriteByte(']')
}

func writeObject(b *strings.Builder, v *api.Json) {
	b.WriteByte('{')
	for i, k := range inOrder(v.Keys) {
		writeComma(b, i)
		writeText(b, k.key)
		b.WriteByte(':')
		write(b, &v.Items[k.at])
	}
	b.WriteByte('}')
}

// writeComma writes what separates the value at i from the one before it.
func writeComma(b *strings.Builder, i int) {
	if i > 0 {
		b.WriteByte(',')
	}
}
