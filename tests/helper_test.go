package tests

import (
	"slices"
	"strings"
	"testing"
)

// The functions here tell what the document says in the plainest way, without the program.

const signs = "abcdABCD"

var cancelling = []string{"aA", "Aa", "bB", "Bb", "cC", "Cc", "dD", "Dd"}

// reduceSlowly takes out neighbours that are inverse to each other until there are none.
func reduceSlowly(s string) string {
	for {
		before := s
		for _, pair := range cancelling {
			s = strings.ReplaceAll(s, pair, "")
		}
		if s == before {
			return s
		}
	}
}

func turnSlowly(s string) string {
	var out strings.Builder
	for i := len(s) - 1; i >= 0; i-- {
		sign := s[i : i+1]
		if upper := strings.ToUpper(sign); upper != sign {
			out.WriteString(upper)
		} else {
			out.WriteString(strings.ToLower(sign))
		}
	}
	return out.String()
}

func sumsSlowly(s string) []int {
	sums := []int{}
	for _, generator := range []string{"a", "b", "c", "d"} {
		sums = append(sums, strings.Count(s, generator)-strings.Count(s, strings.ToUpper(generator)))
	}
	return sums
}

func putSlowly(s string, list []string) string {
	return reduceSlowly(strings.NewReplacer(
		"a", list[0], "b", list[1], "c", list[2], "d", list[3],
		"A", turnSlowly(list[0]), "B", turnSlowly(list[1]), "C", turnSlowly(list[2]), "D", turnSlowly(list[3]),
	).Replace(s))
}

func coreSlowly(s string) string {
	for len(s) > 1 && slices.Contains(cancelling, s[:1]+s[len(s)-1:]) {
		s = s[1 : len(s)-1]
	}
	return s
}

// textsOf returns all texts of at most n of some letters, shorter ones first, of one length in the order of the letters.
func textsOf(letters string, n int) []string {
	texts, last := []string{""}, []string{""}
	for range n {
		var next []string
		for _, s := range last {
			for _, sign := range letters {
				next = append(next, s+string(sign))
			}
		}
		texts = append(texts, next...)
		last = next
	}
	return texts
}

// allTexts returns all texts of at most n letters.
func allTexts(n int) []string {
	return textsOf(signs, n)
}

// allWords returns all words of at most n letters.
func allWords(n int) []string {
	return slices.DeleteFunc(allTexts(n), func(s string) bool { return reduceSlowly(s) != s })
}

func times(s string, n int) string {
	return strings.Repeat(s, n)
}

// around returns the word x between n letters c and their inverses.
func around(n int, x string) string {
	return times("c", n) + x + times("C", n)
}

// longWords returns words with so many letters that what is made of them meets the limits.
func longWords() []string {
	return []string{
		times("a", 15), times("b", 15), times("b", 16),
		times("a", 30), times("B", 30), times("b", 31),
		times("a", 59), times("a", 60), times("A", 60), times("ab", 30), times("BA", 30),
		times("a", 35) + times("b", 25), times("B", 25) + times("a", 25), times("B", 25) + times("a", 26),
		around(28, "a"), around(28, "b"), around(29, "a"), around(29, "B"), around(29, "ab"), around(28, "abAB"),
	}
}

// noTexts returns texts that have a sign that is no letter.
func noTexts() []string {
	texts := []string{"ä", "aä", "日本", "a b", "ab ", " ab", "ab\n", "a*b", "1", "a1", "ae", "xy"}
	for b := range 256 {
		if !strings.Contains(signs, string([]byte{byte(b)})) {
			texts = append(texts, string([]byte{byte(b)}), string([]byte{'a', byte(b)}), string([]byte{byte(b), 'b'}))
		}
	}
	return texts
}

// noWords returns texts that are no words: with other signs, not reduced, and too long ones.
func noWords() []string {
	texts := append([]string{}, cancelling...)
	texts = append(texts, "abBa", "aAb", "baA", "cDdC", "aAbB", times("a", 29)+"bB"+times("a", 29), times("a", 59)+"A", "A"+times("a", 59))
	texts = append(texts, times("a", 61), times("ab", 31), times("a", 200), times("a", 201), times("ab", 100000), times("a", 60)+" ", times("a", 59)+"e", times("\x00", 60))
	return append(texts, noTexts()...)
}

func wantText(t *testing.T, call string, got string, ok bool, want string) {
	t.Helper()
	if !ok || got != want {
		t.Errorf("%s returned %q, %v, not %q", call, got, ok, want)
	}
}

func wantFailure(t *testing.T, call string, got string, ok bool) {
	t.Helper()
	if ok || got != "" {
		t.Errorf("%s returned %q, %v: it must fail", call, got, ok)
	}
}

// wantIfShort wants a text if this has at most 60 letters, and otherwise a failure.
func wantIfShort(t *testing.T, call string, got string, ok bool, want string) {
	t.Helper()
	if len(want) <= 60 {
		wantText(t, call, got, ok, want)
	} else {
		wantFailure(t, call, got, ok)
	}
}
