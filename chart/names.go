package chart

import "strings"

// What a name is made of, and how many bytes it has at most.
const (
	Letters = "abcdefghijklmnopqrstuvwxyz"
	Digits  = "0123456789"
	Longest = 24
)

// IsName: is it a name?
func IsName(s string) bool {
	if s == "" || len(s) > Longest {
		return false
	}
	for k, c := range []byte(s) {
		may := Letters + Digits + "_"
		if k == 0 {
			may = Letters
		}
		if !strings.Contains(may, string(rune(c))) {
			return false
		}
	}
	return true
}

// NoNames: texts that are none, for each of the reasons.
func NoNames() []string {
	l := []string{"", " ", "A", "Z", "_", "_a", "0", "9", "9a", "aB", "a-b", "a b", " a", "a ", "a.", "a:", "@a", "a\x00", "\x00", "a\n", "\na", "`", "{", "a`", "a{", "a/", "a[", "a@", "a^", "a\x7f", "a\x80", "a\xff", "\xff"}
	l = append(l, "é", "aé", "ａ", "а", "ı", "a０", "a٣", "a＿", "abcdefghijklmnopqrstuvw\xc3", "abcdefghijklmnopqrstuvwé")
	for _, n := range []int{Longest + 1, 256, 256 + Longest} {
		l = append(l, strings.Repeat("a", n))
	}
	return append(l, strings.Repeat("_", Longest))
}

// Names: so many without a pattern, of all lengths, each once.
func Names(n int) []string {
	var l []string
	x := uint32(7)
	next := func(below int) int {
		x = x*1103515245 + 12345
		return int(x>>8) % below
	}
	had := map[string]bool{}
	for len(l) < n {
		name := Letters[next(26):][:1]
		for range next(Longest) {
			name += (Letters + Digits + "_")[next(37):][:1]
		}
		if !had[name] {
			had[name] = true
			l = append(l, name)
		}
	}
	return l
}
