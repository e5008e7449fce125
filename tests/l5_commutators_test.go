package tests

import (
	"fmt"
	"math"
	"slices"
	"strings"
	"testing"

	"loop.example/foxcalculus/impl"
)

// Promise 37: If NestOf succeeds, its depth, if told and not 0, is at least the number of the words, if this is at most DegreeMax.

// wantDeep wants NestOf of words, or a failure, and its depth to be 0 or at least their number. It returns whether there is a depth.
func wantDeep(t *testing.T, list ...string) bool {
	t.Helper()
	nest, ok := wantNest(t, list...)
	if !ok {
		return false
	}
	n := depth(t, nest)
	// What is deeper than DegreeMax has no depth that is told.
	if n != 0 && n < len(list) {
		t.Errorf("NestOf of %q has the depth %d", list, n)
	}
	return n != 0
}

func TestPromise37Lists(t *testing.T) {
	found := map[int]int{}
	lists := [][]string{{}}
	for range 3 {
		for _, list := range lists {
			for _, s := range []string{"", "a", "B", "ab", "cD", "abAB", "bbA", around(28, "a")} {
				lists = append(lists, append(slices.Clone(list), s))
			}
		}
	}
	for _, list := range lists[1:] {
		if wantDeep(t, list...) {
			found[len(list)]++
		}
	}
	for _, a := range []string{"a", "b", "D"} {
		for _, b := range []string{"a", "B", "c"} {
			for _, c := range []string{"A", "b", "ac"} {
				for _, d := range []string{"a", "b", "cA", ""} {
					if wantDeep(t, a, b, c, d) {
						found[4]++
					}
				}
			}
		}
	}
	for n := 1; n <= 4; n++ {
		if found[n] < 4 {
			t.Errorf("only %d nested commutators of %d words have a depth", found[n], n)
		}
	}
}

func TestPromise37OneWord(t *testing.T) {
	for _, s := range append(allWords(4), longWords()...) {
		got, ok := impl.NestOf([]string{s})
		wantText(t, fmt.Sprintf("NestOf of %q", s), got, ok, s)
	}
}

func TestPromise37Pairs(t *testing.T) {
	pairs(func(a, b string) {
		got, ok := wantNest(t, a, b)
		comm, also := impl.WordComm(a, b)
		if got != comm || ok != also {
			t.Errorf("NestOf of %q and %q is not their commutator", a, b)
		}
	})
}

// deepNest returns seven words whose nested commutator is a word of 56 letters.
func deepNest() ([]string, string) {
	return []string{"a", "b", "baB", "baBB", "AbbAB", "bABAbAbbABAbaBBa", "bABA"}, "abaBBabABAbAbbABAAAbbABabaBBBAbAbbABAbaBBaaabaBBaBabaBAb"
}

func TestPromise37Examples(t *testing.T) {
	seven, nest := deepNest()
	for _, x := range []struct {
		want string
		list []string
	}{
		{"", []string{""}}, {"a", []string{"a"}}, {"abAB", []string{"a", "b"}}, {"baBA", []string{"b", "a"}}, {"aBAb", []string{"a", "B"}},
		{"abABcbaBAC", []string{"a", "b", "c"}}, {"aabABAbaBA", []string{"a", "abAB"}}, {"abAbaBAB", []string{"a", "b", "b"}}, {"abABabaBAA", []string{"a", "b", "a"}},
		{"abABcbaBACdcabABCbaBAD", []string{"a", "b", "c", "d"}}, {"abAbaabABaBAAB", []string{"a", "b", "b", "ba"}}, {"abABcdCDbaBAdcDC", []string{"abAB", "cdCD"}},
		{nest, seven}, {"", append(slices.Clone(seven), nest)}, {"", append(slices.Clone(seven), turnSlowly(nest))}, {"", append(slices.Clone(seven), "")},
	} {
		got, ok := impl.NestOf(x.list)
		wantText(t, fmt.Sprintf("NestOf of %q", x.list), got, ok, x.want)
		wantDeep(t, x.list...)
	}
}

func TestPromise37EqualWords(t *testing.T) {
	for n := 2; n <= 8; n++ {
		for _, s := range []string{"", "a", "D", "abAB", times("a", 60), times("ab", 30), around(29, "ab")} {
			got, ok := impl.NestOf(slices.Repeat([]string{s}, n))
			wantText(t, fmt.Sprintf("NestOf of %d times %q", n, s), got, ok, "")
			got, ok = impl.NestOf(append([]string{turnSlowly(s)}, slices.Repeat([]string{s}, n-1)...))
			wantText(t, fmt.Sprintf("NestOf of the inverse and %d times %q", n-1, s), got, ok, "")
		}
	}
}

func TestPromise37EmptyWord(t *testing.T) {
	for n := 1; n <= 8; n++ {
		for i := range n {
			list := slices.Repeat([]string{"a"}, n)
			for k := range list {
				list[k] = generators[k%4]
			}
			list[i] = ""
			got, ok := wantNest(t, list...)
			call := fmt.Sprintf("NestOf of %q", list)
			if i <= 5 {
				wantText(t, call, got, ok, "")
			} else { // what is made of the six words ahead has too many letters
				wantFailure(t, call, got, ok)
			}
		}
	}
}

func TestPromise37Limits(t *testing.T) {
	fifteen := times("a", 15)
	got, ok := impl.NestOf([]string{fifteen, times("b", 15)})
	wantText(t, "NestOf of sixty letters", got, ok, commSlowly(fifteen, times("b", 15)))
	got, ok = impl.NestOf([]string{fifteen, times("b", 15), ""})
	wantText(t, "NestOf with sixty letters on the way", got, ok, "")
	seven, nest := deepNest()
	for _, list := range [][]string{
		{fifteen, times("b", 16)}, {fifteen, times("b", 16), ""}, {fifteen, times("b", 16), "", "", "", "", "", ""}, {fifteen, times("b", 15), "c"}, {fifteen, times("b", 15), "c", ""},
		{times("a", 30), "b"}, {"b", times("a", 30)}, {times("a", 60), times("b", 60), ""}, {around(29, "a"), around(29, "b")},
		{"a", "b", "c", "d", "a", "b"}, {"a", "b", "a", "b", "a", "b"}, {"a", "b", "a", "b", "a", "b", "a", "b"}, {"a", "b", "c", "d", "a", "b", "c", ""}, append(slices.Clone(seven), "a"), append(slices.Clone(seven), "bb"), append(slices.Clone(seven), nest[:30]),
	} {
		got, ok := impl.NestOf(list)
		wantFailure(t, fmt.Sprintf("NestOf of %q", list), got, ok)
		wantNest(t, list...)
	}
}

func TestPromise37Numbers(t *testing.T) {
	for _, list := range [][]string{nil, {}, slices.Repeat([]string{""}, 9), slices.Repeat([]string{"a"}, 9), slices.Repeat([]string{""}, 10), slices.Repeat([]string{"b"}, 16), slices.Repeat([]string{""}, 257), make([]string, 1000000)} {
		got, ok := impl.NestOf(list)
		wantFailure(t, fmt.Sprintf("NestOf of %d words", len(list)), got, ok)
	}
	seven, nest := deepNest()
	got, ok := impl.NestOf(append(slices.Clone(seven), nest, "a"))
	wantFailure(t, "NestOf of 9 words", got, ok)
}

func TestPromise37Invalid(t *testing.T) {
	for _, s := range noWords() {
		for _, list := range [][]string{{s}, {s, "a"}, {"a", s}, {s, s}, {s, ""}, {"", s}, {"", "", s}, {"a", "a", s}, {"a", s, "a"}, {s, "", "", "", "", "", "", ""}, {"", "", "", "", "", "", "", s}} {
			got, ok := impl.NestOf(list)
			wantFailure(t, fmt.Sprintf("NestOf of %.70q", list), got, ok)
		}
	}
}

// Promise 38: If LyndonIn holds, LyndonTurn of it is it, and LyndonFactors of it is it alone.

func TestPromise38Texts(t *testing.T) {
	for _, s := range generatorTexts() {
		want := isLyndonSlowly(s)
		if got := impl.LyndonIn(s); got != want {
			t.Errorf("LyndonIn(%q) is %v", s, got)
		}
		factors, ok := impl.LyndonFactors(s)
		if want {
			wantText(t, fmt.Sprintf("LyndonTurn(%q)", s), lyndonTurn(t, s), true, s)
			wantTexts(t, fmt.Sprintf("LyndonFactors(%q)", s), factors, ok, []string{s})
		} else if !ok || len(factors) < 2 {
			t.Errorf("LyndonFactors(%q) returned %q, %v", s, factors, ok)
		}
	}
}

func TestPromise38Examples(t *testing.T) {
	for _, s := range []string{
		"a", "b", "c", "d", "ab", "ad", "cd", "aab", "abb", "abc", "acb", "aabb", "abac", "aabab", "ababb", "acad", "bcbd", "aabaabb", "abacad", "bcbdbd",
		times("a", 11) + "b", "a" + times("b", 11), "a" + times("d", 11), "aaaaabaaaaac", "abababababac", "abcabcabcabd", "aabaabaabaac", "abababababb",
	} {
		if !impl.LyndonIn(s) {
			t.Errorf("LyndonIn(%q) does not hold", s)
		}
	}
	for _, s := range []string{
		"ba", "da", "dc", "aba", "aca", "bab", "baa", "cba", "abab", "abaab", "abcab", "abca", "aabaa", "acab", "bbab", "abcabc", "aabaab", "ababab", "abcabcabc", "aabaabaab",
		times("ab", 6), times("abc", 4), times("abcd", 3), times("aaaaab", 2), times("aab", 4), times("a", 12), "b" + times("a", 11), "aaaaacaaaaab", "abcabcabcab", "abababababaa", times("b", 11) + "a",
	} {
		if impl.LyndonIn(s) {
			t.Errorf("LyndonIn(%q) holds", s)
		}
	}
}

func TestPromise38EqualLetters(t *testing.T) {
	for _, s := range equalLetters() {
		if got := impl.LyndonIn(s); got != (len(s) == 1) {
			t.Errorf("LyndonIn(%q) is %v", s, got)
		}
	}
	for _, s := range repeated() {
		if impl.LyndonIn(s) {
			t.Errorf("LyndonIn(%q) holds", s)
		}
	}
}

func TestPromise38Beginnings(t *testing.T) {
	// A text that is the beginning of another one is less than this: what ends with a beginning of its own is no Lyndon word.
	for _, s := range textsOf("abc", 5)[1:] {
		for _, between := range []string{"", "a", "b", "c", "cc"} {
			if impl.LyndonIn(s + between + s) {
				t.Errorf("LyndonIn(%q) holds", s+between+s)
			}
		}
		if !isLyndonSlowly(s) {
			continue
		}
		for _, n := range []int{1, 2} {
			whole := times(s, n) + "d"
			if impl.LyndonIn(whole) != (len(whole) <= 12) {
				t.Errorf("LyndonIn(%q) is %v", whole, len(whole) > 12)
			}
		}
	}
}

func TestPromise38Invalid(t *testing.T) {
	for _, s := range append(otherTexts(), "") {
		if impl.LyndonIn(s) {
			t.Errorf("LyndonIn(%.70q) holds", s)
		}
	}
}

// Promise 39: If LyndonList succeeds, all are Lyndon words with so many letters, in ascending order, and there are LyndonCount.

func TestPromise39Lists(t *testing.T) {
	for k := 1; k <= 4; k++ {
		for n := 1; n <= 6; n++ {
			call := fmt.Sprintf("LyndonList(%d, %d)", k, n)
			got, ok := impl.LyndonList(k, n)
			wantTexts(t, call, got, ok, lyndonListSlowly("abcd"[:k], n))
			for i, s := range got {
				if !impl.LyndonIn(s) || len(s) != n || i > 0 && got[i-1] >= s {
					t.Errorf("%s has %q at %d", call, s, i)
				}
			}
			if len(got) != lyndonCount(t, k, n) {
				t.Errorf("%s has %d texts", call, len(got))
			}
		}
	}
}

func TestPromise39Examples(t *testing.T) {
	for _, x := range []struct {
		k, n int
		want string
	}{
		{1, 1, "a"}, {2, 1, "a b"}, {3, 1, "a b c"}, {4, 1, "a b c d"}, {1, 2, ""}, {1, 3, ""}, {1, 4, ""}, {1, 5, ""}, {1, 6, ""},
		{2, 2, "ab"}, {3, 2, "ab ac bc"}, {4, 2, "ab ac ad bc bd cd"}, {2, 3, "aab abb"}, {3, 3, "aab aac abb abc acb acc bbc bcc"}, {2, 4, "aaab aabb abbb"},
		{4, 3, "aab aac aad abb abc abd acb acc acd adb adc add bbc bbd bcc bcd bdc bdd ccd cdd"},
		{2, 5, "aaaab aaabb aabab aabbb ababb abbbb"}, {2, 6, "aaaaab aaaabb aaabab aaabbb aababb aabbab aabbbb ababbb abbbbb"},
	} {
		got, ok := impl.LyndonList(x.k, x.n)
		wantTexts(t, fmt.Sprintf("LyndonList(%d, %d)", x.k, x.n), got, ok, strings.Fields(x.want))
	}
	for _, x := range [][3]int{{3, 6, 116}, {4, 4, 60}, {4, 5, 204}, {4, 6, 670}} {
		if got, ok := impl.LyndonList(x[0], x[1]); !ok || len(got) != x[2] {
			t.Errorf("LyndonList(%d, %d) has %d texts, not %d", x[0], x[1], len(got), x[2])
		}
	}
}

func TestPromise39Invalid(t *testing.T) {
	for _, k := range outside(4) {
		for _, n := range append(outside(6), 1, 2, 3, 4, 5, 6) {
			got, ok := impl.LyndonList(k, n)
			wantNoTexts(t, fmt.Sprintf("LyndonList(%d, %d)", k, n), got, ok)
		}
	}
	for _, n := range append(outside(6), 7, 8, 9, 10, 11, 12, 13) {
		for k := 1; k <= 4; k++ {
			got, ok := impl.LyndonList(k, n)
			wantNoTexts(t, fmt.Sprintf("LyndonList(%d, %d)", k, n), got, ok)
		}
	}
}

// Promise 40: If LyndonCount succeeds, the sum, over all divisors d of n, of d times the count for d is k to the power of n.

func TestPromise40Sums(t *testing.T) {
	for k := 1; k <= 4; k++ {
		power := 1
		for n := 1; n <= 12; n++ {
			power *= k
			sum := 0
			for d := 1; d <= n; d++ {
				if n%d == 0 {
					sum += d * lyndonCount(t, k, d)
				}
			}
			if sum != power {
				t.Errorf("the counts for %d generators and the divisors of %d add up to %d", k, n, sum)
			}
		}
	}
}

func TestPromise40Table(t *testing.T) {
	for i, row := range [][]int{
		{1, 0, 0, 0, 0, 0, 0, 0, 0, 0, 0, 0},
		{2, 1, 2, 3, 6, 9, 18, 30, 56, 99, 186, 335},
		{3, 3, 8, 18, 48, 116, 312, 810, 2184, 5880, 16104, 44220},
		{4, 6, 20, 60, 204, 670, 2340, 8160, 29120, 104754, 381300, 1397740},
	} {
		for m, want := range row {
			got, ok := impl.LyndonCount(i+1, m+1)
			wantNumber(t, fmt.Sprintf("LyndonCount(%d, %d)", i+1, m+1), got, ok, want)
		}
	}
}

func TestPromise40Texts(t *testing.T) {
	for _, x := range []struct {
		letters string
		n       int
	}{{"a", 12}, {"ab", 12}, {"abc", 8}, {"abcd", 7}} {
		count := map[int]int{}
		for _, s := range textsOf(x.letters, x.n) {
			if isLyndonSlowly(s) {
				count[len(s)]++
			}
		}
		for n := 1; n <= x.n; n++ {
			got, ok := impl.LyndonCount(len(x.letters), n)
			wantNumber(t, fmt.Sprintf("LyndonCount(%d, %d)", len(x.letters), n), got, ok, count[n])
		}
	}
}

func TestPromise40Invalid(t *testing.T) {
	for _, k := range outside(4) {
		for _, n := range append(outside(12), 1, 2, 6, 12) {
			got, ok := impl.LyndonCount(k, n)
			wantNoNumber(t, fmt.Sprintf("LyndonCount(%d, %d)", k, n), got, ok)
		}
	}
	for _, n := range outside(12) {
		for k := 1; k <= 4; k++ {
			got, ok := impl.LyndonCount(k, n)
			wantNoNumber(t, fmt.Sprintf("LyndonCount(%d, %d)", k, n), got, ok)
		}
	}
	got, ok := impl.LyndonCount(math.MinInt, math.MinInt)
	wantNoNumber(t, "LyndonCount of the least numbers", got, ok)
}

// Promise 41: If LyndonSplit succeeds, both parts are Lyndon words, the first one less than the second one, and make the word.

func wantSplit(t *testing.T, s, ahead, end string) {
	t.Helper()
	if x, y, ok := impl.LyndonSplit(s); !ok || x != ahead || y != end {
		t.Errorf("LyndonSplit(%q) returned %q, %q, %v, not %q and %q", s, x, y, ok, ahead, end)
	}
}

func wantNoSplit(t *testing.T, s string) {
	t.Helper()
	if x, y, ok := impl.LyndonSplit(s); ok || x != "" || y != "" {
		t.Errorf("LyndonSplit(%.70q) returned %q, %q, %v: it must fail", s, x, y, ok)
	}
}

func TestPromise41Texts(t *testing.T) {
	split := 0
	for _, s := range generatorTexts() {
		if len(s) == 1 || !isLyndonSlowly(s) {
			wantNoSplit(t, s)
			continue
		}
		ahead, end := splitSlowly(s)
		wantSplit(t, s, ahead, end)
		if ahead, end, _ = impl.LyndonSplit(s); !impl.LyndonIn(ahead) || !impl.LyndonIn(end) || ahead >= end || ahead+end != s {
			t.Errorf("LyndonSplit(%q) returned %q and %q", s, ahead, end)
		}
		// The longest end that is a Lyndon word is the least one.
		if least := slices.Min(endsOf(s)); end != least {
			t.Errorf("LyndonSplit(%q) returned %q and %q, but %q is a lesser end", s, ahead, end, least)
		}
		split++
	}
	if split < 1000 {
		t.Errorf("only %d Lyndon words were split", split)
	}
}

func TestPromise41Examples(t *testing.T) {
	for _, x := range []string{
		"a b", "a c", "a d", "b c", "c d", "a ab", "ab b", "a bc", "ac b", "a abb", "aab ab", "ab abb", "a aab", "abb b", "ab ac", "ab acad", "a bcd", "acd b", "ac bd", "ad bc", "abc ac", "a abac", "aac ab", "a bbc",
		"a " + times("a", 10) + "b", "a" + times("b", 10) + " b", "ab ababababac", "aaaaab aaaaac", "abc abcabcabd", "aab aabaabaac", "aabcd abcd", "a aabbbcccddd", "aaab aab", "aabab ab",
	} {
		parts := strings.Fields(x)
		wantSplit(t, parts[0]+parts[1], parts[0], parts[1])
	}
}

func TestPromise41Failures(t *testing.T) {
	for _, s := range append([]string{"", "a", "b", "c", "d", "ba", "aba", "abca", "abab", "abaab", "aabaab", "dcba", "abcabcabcab"}, append(equalLetters(), repeated()...)...) {
		wantNoSplit(t, s)
	}
}

func TestPromise41Invalid(t *testing.T) {
	for _, s := range otherTexts() {
		wantNoSplit(t, s)
	}
}

// Promise 42: If LyndonFactors succeeds, all are Lyndon words, none is greater than the one ahead of it, and they make the text.

func TestPromise42Texts(t *testing.T) {
	for _, s := range append(generatorTexts(), "") {
		got, ok := impl.LyndonFactors(s)
		if !ok || !fallsSlowly(got) || strings.Join(got, "") != s {
			t.Errorf("LyndonFactors(%q) returned %q, %v", s, got, ok)
		}
		for i, x := range got {
			if !impl.LyndonIn(x) || i > 0 && x > got[i-1] {
				t.Errorf("LyndonFactors(%q) has %q at %d", s, x, i)
			}
		}
	}
}

func TestPromise42OneList(t *testing.T) {
	for _, s := range append(textsOf("abcd", 5), textsOf("ab", 8)...) {
		lists := slices.DeleteFunc(cutsOf(s), func(list []string) bool { return !fallsSlowly(list) })
		if len(lists) != 1 {
			t.Fatalf("there are %d lists of factors for %q", len(lists), s)
		}
		got, ok := impl.LyndonFactors(s)
		wantTexts(t, fmt.Sprintf("LyndonFactors(%q)", s), got, ok, lists[0])
	}
}

func TestPromise42Examples(t *testing.T) {
	for _, x := range []string{
		"", "a", "d", "a a", "b a", "ab", "d c b a", "abcd", "aabbccdd", "d d c c b b a a", "b aab", "ab a", "ab ab", "ab aab", "abb ab a", "b ab aab", "abac ab", "c b ac ab a", "aab aab", "aab aab aab", "abc abc abc abc",
		"ab ab ab ab ab ab", "aaaaab aaaaab", "aaaaac aaaaab", "aaaaabaaaaac", "b a a a a a a a a a a a", "aaaaaaaaaaab", "abbbbbbbbbbb", "b b b b b b b b b b b a", "abc abc abc ab", "ab ab ab ab ab a a", "abababac ab ab",
		"abcd abcd abcd", "aabcdabcdabc", "cd bcd abcd", "d d d d", "a a a a a a a a a a a a", "d d d d d d d d d d d d", "bc bc b b ac ac",
	} {
		want := strings.Fields(x)
		s := strings.Join(want, "")
		got, ok := impl.LyndonFactors(s)
		wantTexts(t, fmt.Sprintf("LyndonFactors(%q)", s), got, ok, want)
	}
}

func TestPromise42EqualLetters(t *testing.T) {
	for _, s := range equalLetters() {
		got, ok := impl.LyndonFactors(s)
		wantTexts(t, fmt.Sprintf("LyndonFactors(%q)", s), got, ok, strings.Split(s, ""))
	}
	for _, s := range lyndonWords() {
		for n := 2; n*len(s) <= 12; n++ {
			got, ok := impl.LyndonFactors(times(s, n))
			wantTexts(t, fmt.Sprintf("LyndonFactors of %d times %q", n, s), got, ok, slices.Repeat([]string{s}, n))
		}
	}
}

func TestPromise42Invalid(t *testing.T) {
	for _, s := range otherTexts() {
		got, ok := impl.LyndonFactors(s)
		wantNoTexts(t, fmt.Sprintf("LyndonFactors(%.70q)", s), got, ok)
	}
}

// Promise 43: If LyndonBracket succeeds for at most DegreeMax letters, its depth, if told, is their number, and its coefficient of the word is 1.

func TestPromise43Depths(t *testing.T) {
	for n := 1; n <= 4; n++ {
		for _, s := range lyndonListSlowly("abcd", n) {
			got, ok := impl.LyndonBracket(s)
			if !ok {
				t.Fatalf("LyndonBracket(%q) failed", s)
			}
			if found := depth(t, got); found != n {
				t.Errorf("the bracket of %q has the depth %d", s, found)
			}
			if coef := seriesCoef(t, got, s); coef != 1 {
				t.Errorf("the bracket of %q has the coefficient %d of it", s, coef)
			}
		}
	}
}

func TestPromise43Words(t *testing.T) {
	told, failed := 0, 0
	for _, s := range append(lyndonWords(), lyndonListSlowly("abcd", 6)...) {
		call := fmt.Sprintf("LyndonBracket(%q)", s)
		got, ok := impl.LyndonBracket(s)
		if want, fits := bracketSlowly(s); fits {
			wantText(t, call, got, ok, want)
			told++
		} else {
			wantFailure(t, call, got, ok)
			failed++
		}
	}
	if told < 500 || failed < 500 {
		t.Errorf("%d brackets were told, and %d failed", told, failed)
	}
}

func TestPromise43Examples(t *testing.T) {
	for s, want := range map[string]string{
		"a": "a", "b": "b", "c": "c", "d": "d", "ab": "abAB", "ad": "adAD", "cd": "cdCD", "aab": "aabABAbaBA", "abb": "abAbaBAB", "abc": "abcBCAcbCB", "acb": "acACbcaCAB", "bcd": "bcdCDBdcDC", "aabb": "aabAbaBABAbabABaBA",
		"abac": "abABacACbaBAcaCA", "aabab": commSlowly("aabABAbaBA", "abAB"), "ababb": commSlowly("abAB", "abAbaBAB"), "abcd": commSlowly("a", "bcdCDBdcDC"), "acbd": commSlowly("acAC", "bdBD"),
	} {
		got, ok := impl.LyndonBracket(s)
		wantText(t, fmt.Sprintf("LyndonBracket(%q)", s), got, ok, want)
	}
}

func TestPromise43Limits(t *testing.T) {
	for s, letters := range map[string]int{
		"a": 1, "ab": 4, "aaab": 20, "aaaab": 38, "abbbb": 32, "aabaabb": 46, "aabbababb": 48, "aaaabaab": 58, "aabababab": 58, "aaaabaaab": 56, "aaabaabaab": 56, "aaababaabab": 56, "aaababab": 60,
	} {
		if got, ok := impl.LyndonBracket(s); !ok || len(got) != letters {
			t.Errorf("LyndonBracket(%q) has %d letters, %v, not %d", s, len(got), ok, letters)
		}
	}
	for _, s := range []string{"aaaaab", "abbbbb", "cccccd", "aaaaaab", "aaaabbbb", times("a", 11) + "b", "a" + times("b", 11), "a" + times("d", 11), "aaaaabaaaaac", "abcabcabcabd", "abababababac"} {
		got, ok := impl.LyndonBracket(s)
		wantFailure(t, fmt.Sprintf("LyndonBracket(%q)", s), got, ok)
	}
}

func TestPromise43Failures(t *testing.T) {
	for _, s := range slices.Concat([]string{"", "ba", "aba", "abca", "abaab", "dcba", "baa", "abcab"}, repeated()) {
		got, ok := impl.LyndonBracket(s)
		wantFailure(t, fmt.Sprintf("LyndonBracket(%q)", s), got, ok)
	}
	for _, s := range equalLetters() {
		if len(s) > 1 {
			got, ok := impl.LyndonBracket(s)
			wantFailure(t, fmt.Sprintf("LyndonBracket(%q)", s), got, ok)
		}
	}
}

func TestPromise43Invalid(t *testing.T) {
	for _, s := range otherTexts() {
		got, ok := impl.LyndonBracket(s)
		wantFailure(t, fmt.Sprintf("LyndonBracket(%.70q)", s), got, ok)
	}
}

// Promise 44: If LyndonTurn succeeds, it has as many letters, is not greater than the text, and is the same for the text with its first letter put behind.

func TestPromise44Texts(t *testing.T) {
	for _, s := range generatorTexts() {
		call := fmt.Sprintf("LyndonTurn(%q)", s)
		got, ok := impl.LyndonTurn(s)
		wantText(t, call, got, ok, slices.Min(turnsOf(s)))
		if len(got) != len(s) || got > s {
			t.Errorf("%s returned %q", call, got)
		}
		behind, ok := impl.LyndonTurn(s[1:] + s[:1])
		wantText(t, call+" with its first letter put behind", behind, ok, got)
	}
}

func TestPromise44Turns(t *testing.T) {
	for _, s := range slices.Concat(twelveLetters(), lyndonListSlowly("abcd", 4), repeated()) {
		least := slices.Min(turnsOf(s))
		for _, x := range turnsOf(s) {
			got, ok := impl.LyndonTurn(x)
			wantText(t, fmt.Sprintf("LyndonTurn(%q)", x), got, ok, least)
		}
	}
}

func TestPromise44Examples(t *testing.T) {
	for s, want := range map[string]string{
		"a": "a", "d": "d", "ab": "ab", "ba": "ab", "aba": "aab", "baa": "aab", "cab": "abc", "bca": "abc", "dcba": "adcb", "abab": "abab", "baba": "abab", "abaab": "aabab", "aabaab": "aabaab", "abaaba": "aabaab", "baabaa": "aabaab",
		"cabcabcab": "abcabcabc", "dbca": "adbc", "bbab": "abbb", "b" + times("a", 11): times("a", 11) + "b", times("ba", 6): times("ab", 6), times("dcb", 4): times("bdc", 4), "aaaaacaaaaab": "aaaaabaaaaac", "abababababaa": "aaababababab",
	} {
		got, ok := impl.LyndonTurn(s)
		wantText(t, fmt.Sprintf("LyndonTurn(%q)", s), got, ok, want)
	}
	for _, s := range equalLetters() { // all turns are the same
		got, ok := impl.LyndonTurn(s)
		wantText(t, fmt.Sprintf("LyndonTurn(%q)", s), got, ok, s)
	}
}

func TestPromise44Invalid(t *testing.T) {
	for _, s := range append(otherTexts(), "") {
		got, ok := impl.LyndonTurn(s)
		wantFailure(t, fmt.Sprintf("LyndonTurn(%.70q)", s), got, ok)
	}
}

// The general rules: results have memory of their own, arguments are left, and nothing is kept.

func TestCommutatorsMemory(t *testing.T) {
	for _, f := range []struct {
		name string
		of   func() ([]string, bool)
	}{
		{"LyndonList", func() ([]string, bool) { return impl.LyndonList(3, 4) }},
		{"LyndonFactors", func() ([]string, bool) { return impl.LyndonFactors("dcbabaabaa") }},
		{"LyndonFactors of one letter", func() ([]string, bool) { return impl.LyndonFactors("a") }},
	} {
		first, _ := f.of()
		second, _ := f.of()
		kept := slices.Clone(second)
		clear(first[:cap(first)])
		_ = append(first, "x")
		again, ok := f.of()
		wantTexts(t, f.name, second, true, kept)
		wantTexts(t, f.name, again, ok, kept)
	}
}

func TestNestOfLeavesItsList(t *testing.T) {
	whole := []string{"a", "b", "Ab", "", "aA", "x", "b", "c", "d", "e"}
	kept := slices.Clone(whole)
	for n := range len(whole) + 1 {
		impl.NestOf(whole[:n])
		impl.NestOf(whole[n:])
		if !slices.Equal(whole, kept) {
			t.Fatalf("NestOf of %d texts changed its list to %q", n, whole)
		}
	}
}

func TestCommutatorsKeepNoState(t *testing.T) {
	for range 3 {
		got, ok := impl.NestOf([]string{"a", "b"})
		wantText(t, "NestOf", got, ok, "abAB")
		got, ok = impl.NestOf([]string{"a", "e"})
		wantFailure(t, "NestOf", got, ok)
		list, ok := impl.LyndonList(2, 3)
		wantTexts(t, "LyndonList", list, ok, []string{"aab", "abb"})
		list, ok = impl.LyndonList(1, 6)
		wantTexts(t, "LyndonList", list, ok, nil)
		list, ok = impl.LyndonFactors("ba")
		wantTexts(t, "LyndonFactors", list, ok, []string{"b", "a"})
		list, ok = impl.LyndonFactors("bA")
		wantNoTexts(t, "LyndonFactors", list, ok)
		got, ok = impl.LyndonBracket("aaaaab")
		wantFailure(t, "LyndonBracket", got, ok)
		got, ok = impl.LyndonBracket("ab")
		wantText(t, "LyndonBracket", got, ok, "abAB")
		n, ok := impl.LyndonCount(4, 12)
		wantNumber(t, "LyndonCount", n, ok, 1397740)
		wantSplit(t, "aabb", "a", "abb")
		wantNoSplit(t, "abab")
		wantText(t, "LyndonTurn", lyndonTurn(t, "cab"), true, "abc")
	}
}
