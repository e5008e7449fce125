package tests

import (
	"math"
	"slices"
	"strings"
	"testing"

	"loop.example/foxcalculus/impl"
)

// commSlowly returns the commutator of two words, with too many letters, too.
func commSlowly(a, b string) string {
	return reduceSlowly(a + b + turnSlowly(a) + turnSlowly(b))
}

// nestSlowly returns the nested commutator of words, and whether all on the way are words.
func nestSlowly(list []string) (string, bool) {
	nest := list[0]
	for _, w := range list[1:] {
		if !isWordSlowly(nest) || !isWordSlowly(w) {
			return "", false
		}
		nest = commSlowly(nest, w)
	}
	if !isWordSlowly(nest) {
		return "", false
	}
	return nest, true
}

// endsOf returns all ends of a text that are neither empty nor all of it.
func endsOf(s string) []string {
	var ends []string
	for i := 1; i < len(s); i++ {
		ends = append(ends, s[i:])
	}
	return ends
}

// isLyndonSlowly reports whether a text is a Lyndon word.
func isLyndonSlowly(s string) bool {
	for _, end := range endsOf(s) {
		if strings.Compare(s, end) >= 0 {
			return false
		}
	}
	return 1 <= len(s) && len(s) <= 12 && strings.Trim(s, "abcd") == ""
}

// lyndonListSlowly returns the Lyndon words among all texts of n of some letters.
func lyndonListSlowly(letters string, n int) []string {
	list := []string{}
	for _, s := range textsOf(letters, n) {
		if len(s) == n && isLyndonSlowly(s) {
			list = append(list, s)
		}
	}
	return list
}

// splitSlowly returns both parts of the split of a Lyndon word of at least two letters.
func splitSlowly(s string) (string, string) {
	longest := ""
	for _, end := range endsOf(s) {
		if isLyndonSlowly(end) && len(end) > len(longest) {
			longest = end
		}
	}
	return strings.TrimSuffix(s, longest), longest
}

// bracketSlowly returns the bracket of a Lyndon word, and whether all on the way are words.
func bracketSlowly(s string) (string, bool) {
	if len(s) == 1 {
		return s, true
	}
	ahead, end := splitSlowly(s)
	first, ok := bracketSlowly(ahead)
	second, also := bracketSlowly(end)
	if !ok || !also {
		return "", false
	}
	return nestSlowly([]string{first, second})
}

// cutsOf returns all ways to cut a text into parts that are not empty.
func cutsOf(s string) [][]string {
	if s == "" {
		return [][]string{nil}
	}
	var cuts [][]string
	for i := range len(s) {
		for _, rest := range cutsOf(s[i+1:]) {
			cuts = append(cuts, append([]string{s[:i+1]}, rest...))
		}
	}
	return cuts
}

// fallsSlowly reports whether all texts are Lyndon words, none greater than the one ahead of it.
func fallsSlowly(list []string) bool {
	for i, s := range list {
		if !isLyndonSlowly(s) || i > 0 && s > list[i-1] {
			return false
		}
	}
	return true
}

// turnsOf returns the texts that are made by putting the first letters of a text behind, itself among them.
func turnsOf(s string) []string {
	var turns []string
	for i := range len(s) {
		turns = append(turns, s[i:]+s[:i])
	}
	return turns
}

// equalLetters returns all texts of 1 to 12 letters that are all the same.
func equalLetters() []string {
	var texts []string
	for _, s := range generators {
		for n := range 12 {
			texts = append(texts, times(s, n+1))
		}
	}
	return texts
}

// repeated returns texts of at most 12 letters that are two, three and more equal parts.
func repeated() []string {
	var texts []string
	for _, s := range append(textsOf("abcd", 3)[1:], "aaab", "abbb", "abcd", "dcba", "acbd", "aabab", "babaa", "aaaaab", "abcdab", "dddddc", "aabaab") {
		for n := 2; n*len(s) <= 12; n++ {
			texts = append(texts, times(s, n))
		}
	}
	return texts
}

// twelveLetters returns texts of 11 and 12 letters, Lyndon words and others.
func twelveLetters() []string {
	return []string{
		times("a", 11) + "b", times("a", 11) + "d", "a" + times("b", 11), "a" + times("d", 11), "c" + times("d", 11), times("c", 11) + "d", times("b", 11) + "a", "d" + times("c", 11),
		"abcdabcdabcd", "aabcdabcdabc", "aaabbbcccddd", "dddcccbbbaaa", "abacabadabac", "aaaaabaaaaac", "aaaaacaaaaab", "abababababac", "abababababaa", "abababacabab", "ddddddcddddd", "aabaabaabaac", "aabaabaabaab", "aabbaabbaabc",
		"abcabcabcabd", "abcabdabcabc", "acacacacacad", "adbcadbcadbd", "bcdbcdbcdbdd", "aaaabaaabaab", "aaaaabaaaabb", "abababababb", "ababababab", "abcabcabcab", "aaaaaaaaaab", "baaaaaaaaaaa", "badcbadcbadc",
	}
}

// generatorTexts returns many texts of 1 to 12 generators.
func generatorTexts() []string {
	return slices.Concat(textsOf("abcd", 5)[1:], textsOf("ab", 12)[1:], textsOf("bcd", 6)[1:], equalLetters(), repeated(), twelveLetters())
}

// lyndonWords returns many Lyndon words.
func lyndonWords() []string {
	return slices.DeleteFunc(generatorTexts(), func(s string) bool { return !isLyndonSlowly(s) })
}

// otherTexts returns texts that have a sign that is no generator, or more than 12 letters.
func otherTexts() []string {
	texts := append(noTexts(), "A", "B", "C", "D", "aB", "Ab", "aA", "Aa", "AB", "abAB", "abcD", "e", "ae", "eb", "abe", "abcde", "a ", "ab\n", "a\x00")
	for i := range 12 {
		for _, sign := range []string{"A", "B", "C", "D", "E", "e", "z", "`", "@", " ", "\x00", "\xff", "1"} {
			whole := "aaaaabcabcdd"
			texts = append(texts, whole[:i]+sign+whole[i+1:], whole[:i]+sign)
		}
	}
	for n := 13; n <= 26; n++ {
		texts = append(texts, times("a", n), times("a", n-1)+"b", "a"+times("b", n-1), times("d", n), times("d", n-1)+"c")
	}
	return append(texts, times("ab", 6)+"b", times("abc", 4)+"d", times("abcd", 3)+"a", "e"+times("a", 12), times("a", 12)+" ",
		times("a", 59)+"b", times("a", 60), times("a", 61), times("a", 255)+"b", times("a", 256)+"b", times("a", 257)+"b", times("a", 267)+"b", times("ab", 100000))
}

// outside returns numbers that are not from 1 to the greatest one.
func outside(greatest int) []int {
	return []int{0, -1, -2, -greatest, greatest + 1, greatest + 2, 2 * greatest, 100, -100, 257, 1<<32 + 1, -1<<32 + 1, math.MaxInt, math.MaxInt - 1, math.MinInt, math.MinInt + 1}
}

func wantTexts(t *testing.T, call string, got []string, ok bool, want []string) {
	t.Helper()
	if !ok || !slices.Equal(got, want) {
		t.Errorf("%s returned %q, %v, not %q", call, got, ok, want)
	}
}

func wantNoTexts(t *testing.T, call string, got []string, ok bool) {
	t.Helper()
	if ok || len(got) != 0 {
		t.Errorf("%s returned %q, %v: it must fail", call, got, ok)
	}
}

// wantNest wants what NestOf makes of words, or a failure, and returns it.
func wantNest(t *testing.T, list ...string) (string, bool) {
	t.Helper()
	call := "NestOf of " + strings.Join(list, " ")
	got, ok := impl.NestOf(list)
	if want, told := nestSlowly(list); told {
		wantText(t, call, got, ok, want)
	} else {
		wantFailure(t, call, got, ok)
	}
	return got, ok
}

func lyndonCount(t *testing.T, k, n int) int {
	t.Helper()
	got, ok := impl.LyndonCount(k, n)
	if !ok {
		t.Errorf("LyndonCount(%d, %d) failed", k, n)
	}
	return got
}

func lyndonTurn(t *testing.T, s string) string {
	t.Helper()
	got, ok := impl.LyndonTurn(s)
	if !ok {
		t.Errorf("LyndonTurn(%q) failed", s)
	}
	return got
}
