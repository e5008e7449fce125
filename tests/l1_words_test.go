package tests

import (
	"fmt"
	"math"
	"slices"
	"testing"

	"loop.example/foxcalculus/impl"
)

var generators = []string{"a", "b", "c", "d"}

func turn(t *testing.T, s string) string {
	t.Helper()
	got, ok := impl.WordTurned(s)
	if !ok {
		t.Errorf("WordTurned(%q) failed", s)
	}
	return got
}

func sums(t *testing.T, s string) []int {
	t.Helper()
	got, ok := impl.WordSums(s)
	if !ok || len(got) != 4 {
		t.Fatalf("WordSums(%q) returned %v, %v", s, got, ok)
	}
	return got
}

// pairs calls f with many pairs of words, short ones and long ones.
func pairs(f func(a, b string)) {
	words := append(allWords(2), longWords()...)
	words = append(words, "abc", "CBA", "abAB", "baBA", "dcDa", "AdCD")
	for _, a := range words {
		for _, b := range words {
			f(a, b)
		}
	}
}

func TestLettersMax(t *testing.T) {
	if impl.LettersMax != 60 {
		t.Errorf("LettersMax is %d", impl.LettersMax)
	}
}

// Promise 1: If WordIn holds, WordReduce of it is it, and WordTimes of it and WordTurned is the empty word.

func TestPromise1Texts(t *testing.T) {
	for _, s := range append(allTexts(4), longWords()...) {
		if got, want := impl.WordIn(s), reduceSlowly(s) == s; got != want {
			t.Errorf("WordIn(%q) is %v", s, got)
		}
		if !impl.WordIn(s) {
			continue
		}
		got, ok := impl.WordReduce(s)
		wantText(t, fmt.Sprintf("WordReduce(%q)", s), got, ok, s)
		inverse := turn(t, s)
		got, ok = impl.WordTimes(s, inverse)
		wantText(t, fmt.Sprintf("WordTimes(%q, %q)", s, inverse), got, ok, "")
	}
}

func TestPromise1Limit(t *testing.T) {
	for _, s := range []string{"a", "A", "d", "D", "ab", "Ad"} {
		for n := range 100 {
			text := times(s, n)
			if got, want := impl.WordIn(text), len(text) <= 60; got != want {
				t.Errorf("WordIn of %d letters is %v", len(text), got)
			}
		}
	}
}

func TestPromise1Invalid(t *testing.T) {
	for _, s := range noWords() {
		if impl.WordIn(s) {
			t.Errorf("WordIn(%q) holds", s)
		}
	}
}

// Promise 2: If WordReduce succeeds, it is a word, not longer than the text, by an even number of letters.

func TestPromise2Texts(t *testing.T) {
	for _, s := range allTexts(5) {
		got, ok := impl.WordReduce(s)
		wantText(t, fmt.Sprintf("WordReduce(%q)", s), got, ok, reduceSlowly(s))
		if !impl.WordIn(got) || len(got) > len(s) || (len(s)-len(got))%2 != 0 {
			t.Errorf("WordReduce(%q) returned %q", s, got)
		}
	}
}

func TestPromise2Examples(t *testing.T) {
	for s, want := range map[string]string{
		"": "", "a": "a", "aA": "", "Aa": "", "abBAc": "c", "abcdDCBA": "", "aAbBcCdD": "", "aAa": "a", "abBAabBA": "",
		"aBbA": "", "abAB": "abAB", "aaAA": "", "dDd": "d", "abBcCA": "", "AabB": "", "ABba": "",
	} {
		got, ok := impl.WordReduce(s)
		wantText(t, fmt.Sprintf("WordReduce(%q)", s), got, ok, want)
	}
}

func TestPromise2Limits(t *testing.T) {
	for _, text := range []struct {
		text, want string
	}{
		{times("aA", 100), ""},
		{times("d", 100) + times("D", 100), ""},
		{times("a", 60), times("a", 60)},
		{times("a", 130) + times("A", 70), times("a", 60)},
		{times("ab", 15) + times("aA", 70) + times("Bc", 15), times("ab", 14) + "a" + "c" + times("Bc", 14)},
		{times("A", 129) + times("a", 70), times("A", 59)},
	} {
		got, ok := impl.WordReduce(text.text)
		wantText(t, fmt.Sprintf("WordReduce of %d letters", len(text.text)), got, ok, text.want)
	}
	for _, text := range []string{
		times("aA", 100) + "a", "a" + times("aA", 100), times("aA", 101), times("a", 101) + times("A", 100),
		times("a", 61), times("a", 130) + times("A", 69), times("a", 131) + times("A", 69), times("a", 200), times("aA", 1000000),
	} {
		got, ok := impl.WordReduce(text)
		wantFailure(t, fmt.Sprintf("WordReduce of %d letters", len(text)), got, ok)
	}
}

func TestPromise2Invalid(t *testing.T) {
	for _, s := range noTexts() {
		for _, text := range []string{s, "bB" + s, s + "bB", "b" + s + "B"} {
			got, ok := impl.WordReduce(text)
			wantFailure(t, fmt.Sprintf("WordReduce(%q)", text), got, ok)
		}
	}
	got, ok := impl.WordReduce(times("aA", 99) + "a ")
	wantFailure(t, "WordReduce of 199 letters and a space", got, ok)
}

// Promise 3: If WordTimes succeeds, it times the inverse of the second word is the first one, and its sums are both together.

func TestPromise3Pairs(t *testing.T) {
	pairs(func(a, b string) {
		product, ok := impl.WordTimes(a, b)
		wantIfShort(t, fmt.Sprintf("WordTimes(%q, %q)", a, b), product, ok, reduceSlowly(a+b))
		if !ok {
			return
		}
		back, ok := impl.WordTimes(product, turn(t, b))
		wantText(t, fmt.Sprintf("WordTimes(%q, inverse of %q)", product, b), back, ok, a)
		x, y, both := sums(t, a), sums(t, b), sums(t, product)
		for g := range both {
			if both[g] != x[g]+y[g] {
				t.Errorf("the sums of %q times %q are %v", a, b, both)
			}
		}
	})
}

func TestPromise3Limits(t *testing.T) {
	for _, words := range [][3]string{
		{times("a", 30), times("b", 30), times("a", 30) + times("b", 30)},
		{times("a", 60), times("A", 60), ""},
		{times("a", 60), times("A", 59), "a"},
		{times("a", 60), "", times("a", 60)},
		{"", times("a", 60), times("a", 60)},
		{times("a", 35) + times("b", 25), times("B", 25) + times("a", 25), times("a", 60)},
	} {
		got, ok := impl.WordTimes(words[0], words[1])
		wantText(t, fmt.Sprintf("WordTimes(%q, %q)", words[0], words[1]), got, ok, words[2])
	}
	for _, words := range [][2]string{
		{times("a", 30), times("b", 31)},
		{times("a", 60), "a"},
		{"b", times("a", 60)},
		{times("a", 60), times("b", 60)},
		{times("a", 35) + times("b", 25), times("B", 25) + times("a", 26)},
	} {
		got, ok := impl.WordTimes(words[0], words[1])
		wantFailure(t, fmt.Sprintf("WordTimes(%q, %q)", words[0], words[1]), got, ok)
	}
}

func TestPromise3Invalid(t *testing.T) {
	for _, s := range noWords() {
		for _, words := range [][2]string{{s, "a"}, {"a", s}, {s, ""}, {"", s}, {s, s}} {
			got, ok := impl.WordTimes(words[0], words[1])
			wantFailure(t, fmt.Sprintf("WordTimes(%q, %q)", words[0], words[1]), got, ok)
		}
	}
	got, ok := impl.WordTimes("aA", "aA")
	wantFailure(t, "WordTimes of two texts that are not reduced", got, ok)
}

// Promise 4: If WordTimes succeeds, it times the first word is the first one times the product of the second and the first one, if both are told.

func TestPromise4Pairs(t *testing.T) {
	told := 0
	pairs(func(a, b string) {
		ab, ok := impl.WordTimes(a, b)
		ba, also := impl.WordTimes(b, a)
		if !ok || !also {
			return
		}
		left, ok := impl.WordTimes(ab, a)
		right, also := impl.WordTimes(a, ba)
		if ok != also || left != right {
			t.Errorf("for %q and %q: %q, %v and %q, %v", a, b, left, ok, right, also)
		}
		wantIfShort(t, fmt.Sprintf("WordTimes(%q, %q)", ab, a), left, ok, reduceSlowly(a+b+a))
		if ok {
			told++
		}
	})
	if told < 4000 {
		t.Errorf("only %d products were told", told)
	}
}

func TestPromise4Examples(t *testing.T) {
	for _, words := range [][3]string{
		{"a", "b", "aba"}, {"a", "A", "a"}, {"ab", "BA", "ab"}, {"ab", "B", "aab"}, {"", "b", "b"}, {"b", "", "bb"},
		{"dC", "c", "ddC"}, {"a", times("b", 58), "a" + times("b", 58) + "a"}, {times("a", 60), times("A", 60), times("a", 60)},
	} {
		ab, _ := impl.WordTimes(words[0], words[1])
		got, ok := impl.WordTimes(ab, words[0])
		wantText(t, fmt.Sprintf("%q times %q times %q", words[0], words[1], words[0]), got, ok, words[2])
		ba, _ := impl.WordTimes(words[1], words[0])
		got, ok = impl.WordTimes(words[0], ba)
		wantText(t, fmt.Sprintf("%q times the product of %q and %q", words[0], words[1], words[0]), got, ok, words[2])
	}
}

func TestPromise4Invalid(t *testing.T) {
	for _, s := range noWords() {
		product, ok := impl.WordTimes("b", s)
		wantFailure(t, fmt.Sprintf("WordTimes(%q, %q)", "b", s), product, ok)
		product, ok = impl.WordTimes(s, "b")
		wantFailure(t, fmt.Sprintf("WordTimes(%q, %q)", s, "b"), product, ok)
	}
	ab, _ := impl.WordTimes("a", times("b", 59))
	got, ok := impl.WordTimes(ab, "a")
	wantFailure(t, "WordTimes of 60 letters and one", got, ok)
}

// Promise 5: If WordTurned succeeds, it leads back, and has as many letters.

func TestPromise5Words(t *testing.T) {
	for _, s := range append(allWords(4), longWords()...) {
		got, ok := impl.WordTurned(s)
		wantText(t, fmt.Sprintf("WordTurned(%q)", s), got, ok, turnSlowly(s))
		if len(got) != len(s) {
			t.Errorf("WordTurned(%q) has %d letters", s, len(got))
		}
		back, ok := impl.WordTurned(got)
		wantText(t, fmt.Sprintf("WordTurned(%q)", got), back, ok, s)
	}
}

func TestPromise5Examples(t *testing.T) {
	for s, want := range map[string]string{"": "", "a": "A", "D": "d", "ab": "BA", "abAB": "baBA", "aBcD": "dCbA", "aab": "BAA", times("aB", 30): times("bA", 30)} {
		got, ok := impl.WordTurned(s)
		wantText(t, fmt.Sprintf("WordTurned(%q)", s), got, ok, want)
	}
}

func TestPromise5Invalid(t *testing.T) {
	for _, s := range noWords() {
		got, ok := impl.WordTurned(s)
		wantFailure(t, fmt.Sprintf("WordTurned(%q)", s), got, ok)
	}
}

// Promise 6: If WordPower succeeds, it times the word is the next power, if both are told.

// powerSlowly reduces at each step, as the text would be long otherwise.
func powerSlowly(s string, n int) string {
	if n < 0 {
		s, n = turnSlowly(s), -n
	}
	power := ""
	for range n {
		power = reduceSlowly(power + s)
	}
	return power
}

func TestPromise6Words(t *testing.T) {
	for _, s := range append(allWords(2), longWords()...) {
		for n := -60; n <= 60; n++ {
			power, ok := impl.WordPower(s, n)
			call := fmt.Sprintf("WordPower(%q, %d)", s, n)
			wantIfShort(t, call, power, ok, powerSlowly(s, n))
			next, also := impl.WordPower(s, n+1)
			if !ok || !also {
				continue
			}
			got, ok := impl.WordTimes(power, s)
			wantText(t, call+" times the word", got, ok, next)
		}
	}
}

func TestPromise6Numbers(t *testing.T) {
	for _, power := range []struct {
		word string
		n    int
		want string
	}{
		{"a", 60, times("a", 60)}, {"a", -60, times("A", 60)}, {"D", 60, times("D", 60)}, {"D", -60, times("d", 60)},
		{"", 60, ""}, {"", -60, ""}, {"", 0, ""}, {"a", 0, ""}, {times("ab", 30), 0, ""}, {"a", 1, "a"}, {"a", -1, "A"},
		{"ab", 2, "abab"}, {"ab", -2, "BABA"}, {"ab", 30, times("ab", 30)}, {"ab", -30, times("BA", 30)},
		{"abA", 58, "a" + times("b", 58) + "A"}, {"abA", -58, "a" + times("B", 58) + "A"},
		{around(29, "a"), 2, around(29, "aa")}, {around(29, "a"), -2, around(29, "AA")},
		{around(28, "a"), 4, around(28, "aaaa")}, {times("a", 60), 1, times("a", 60)}, {times("a", 60), -1, times("A", 60)},
	} {
		got, ok := impl.WordPower(power.word, power.n)
		wantText(t, fmt.Sprintf("WordPower(%q, %d)", power.word, power.n), got, ok, power.want)
	}
}

func TestPromise6Failures(t *testing.T) {
	for _, n := range []int{-61, 61, -62, 62, 1000, -1000, math.MinInt, math.MinInt + 1, math.MaxInt, 1 << 32, -1 << 32} {
		for _, s := range []string{"", "a", "ab", around(28, "a")} {
			got, ok := impl.WordPower(s, n)
			wantFailure(t, fmt.Sprintf("WordPower(%q, %d)", s, n), got, ok)
		}
	}
	for _, power := range []struct {
		word string
		n    int
	}{{"ab", 31}, {"ab", -31}, {"ab", 60}, {"abA", 59}, {"abA", -60}, {around(29, "a"), 3}, {around(29, "a"), -3}, {times("a", 60), 2}, {times("a", 31), -2}} {
		got, ok := impl.WordPower(power.word, power.n)
		wantFailure(t, fmt.Sprintf("WordPower(%q, %d)", power.word, power.n), got, ok)
	}
	for _, s := range noWords() {
		for _, n := range []int{-61, -60, -1, 0, 1, 2, 60, 61} {
			got, ok := impl.WordPower(s, n)
			wantFailure(t, fmt.Sprintf("WordPower(%q, %d)", s, n), got, ok)
		}
	}
}

// Promise 7: If WordComm succeeds, its inverse is that of both exchanged, its sums are 0, and it times the product of both in the other order is the product of both, if told.

func TestPromise7Pairs(t *testing.T) {
	pairs(func(a, b string) {
		comm, ok := impl.WordComm(a, b)
		call := fmt.Sprintf("WordComm(%q, %q)", a, b)
		wantIfShort(t, call, comm, ok, reduceSlowly(a+b+turnSlowly(a)+turnSlowly(b)))
		exchanged, also := impl.WordComm(b, a)
		if ok != also {
			t.Errorf("%s returned %v, and exchanged %v", call, ok, also)
		}
		if !ok || !also {
			return
		}
		if turn(t, comm) != exchanged {
			t.Errorf("%s is not the inverse of that of both exchanged", call)
		}
		if got := sums(t, comm); !slices.Equal(got, []int{0, 0, 0, 0}) {
			t.Errorf("the sums of %s are %v", call, got)
		}
		ab, ok := impl.WordTimes(a, b)
		ba, also := impl.WordTimes(b, a)
		if ok && also {
			got, ok := impl.WordTimes(comm, ba)
			wantText(t, call+" times the product in the other order", got, ok, ab)
		}
	})
}

func TestPromise7Examples(t *testing.T) {
	for _, words := range [][3]string{
		{"a", "b", "abAB"}, {"b", "a", "baBA"}, {"a", "B", "aBAb"}, {"A", "b", "AbaB"}, {"c", "D", "cDCd"},
		{"a", "a", ""}, {"a", "A", ""}, {"a", "", ""}, {"", "b", ""}, {"", "", ""}, {"ab", "a", "abaBAA"}, {"abAB", "c", "abABcbaBAC"},
		{times("a", 60), times("a", 60), ""}, {times("a", 60), times("A", 60), ""}, {times("a", 60), times("a", 31), ""}, {times("ab", 30), times("BA", 30), ""},
		{times("a", 15), times("b", 15), times("a", 15) + times("b", 15) + times("A", 15) + times("B", 15)},
		{times("a", 29), "b", times("a", 29) + "b" + times("A", 29) + "B"},
		{around(28, "a"), around(28, "b"), around(28, "abAB")},
	} {
		got, ok := impl.WordComm(words[0], words[1])
		wantText(t, fmt.Sprintf("WordComm(%q, %q)", words[0], words[1]), got, ok, words[2])
	}
}

func TestPromise7Failures(t *testing.T) {
	for _, words := range [][2]string{
		{times("a", 15), times("b", 16)}, {times("a", 30), "b"}, {"b", times("a", 30)}, {around(29, "a"), around(29, "b")}, {times("a", 60), times("b", 60)},
	} {
		got, ok := impl.WordComm(words[0], words[1])
		wantFailure(t, fmt.Sprintf("WordComm(%q, %q)", words[0], words[1]), got, ok)
	}
	for _, s := range noWords() {
		for _, words := range [][2]string{{s, "a"}, {"a", s}, {s, ""}, {"", s}, {s, s}} {
			got, ok := impl.WordComm(words[0], words[1])
			wantFailure(t, fmt.Sprintf("WordComm(%q, %q)", words[0], words[1]), got, ok)
		}
	}
}

// Promise 8: If WordSums succeeds, those of the inverse are the opposite ones.

func TestPromise8Words(t *testing.T) {
	for _, s := range append(allWords(4), longWords()...) {
		got := sums(t, s)
		if !slices.Equal(got, sumsSlowly(s)) {
			t.Errorf("WordSums(%q) returned %v", s, got)
		}
		for g, n := range sums(t, turn(t, s)) {
			if n != -got[g] {
				t.Errorf("the sum %d of the inverse of %q is %d", g, s, n)
			}
		}
	}
}

func TestPromise8Examples(t *testing.T) {
	for s, want := range map[string][]int{
		"": {0, 0, 0, 0}, "a": {1, 0, 0, 0}, "b": {0, 1, 0, 0}, "c": {0, 0, 1, 0}, "d": {0, 0, 0, 1}, "A": {-1, 0, 0, 0}, "D": {0, 0, 0, -1},
		"abAB": {0, 0, 0, 0}, "aabCDDD": {2, 1, -1, -3}, times("a", 60): {60, 0, 0, 0}, times("D", 60): {0, 0, 0, -60}, times("bC", 30): {0, 30, -30, 0},
	} {
		if got := sums(t, s); !slices.Equal(got, want) {
			t.Errorf("WordSums(%q) returned %v, not %v", s, got, want)
		}
	}
}

func TestPromise8Memory(t *testing.T) {
	first := sums(t, "aB")
	second := sums(t, "aB")
	first[0], first[1] = 7, 7
	_ = append(first, 9)
	if !slices.Equal(second, []int{1, -1, 0, 0}) || !slices.Equal(sums(t, "aB"), []int{1, -1, 0, 0}) {
		t.Error("results of WordSums share memory")
	}
}

func TestPromise8Invalid(t *testing.T) {
	for _, s := range noWords() {
		if got, ok := impl.WordSums(s); ok || len(got) != 0 {
			t.Errorf("WordSums(%q) returned %v, %v", s, got, ok)
		}
	}
}

// Promise 9: If WordPut succeeds, that of the inverse is its inverse, and with the generators themselves put the word is left.

func lists() [][]string {
	return [][]string{
		generators, {"", "", "", ""}, {"b", "A", "c", "d"}, {"d", "c", "b", "a"}, {"A", "B", "C", "D"}, {"ab", "b", "cD", "Dc"}, {"a", "a", "a", "a"},
		{"aba", "A", "", "bc"}, {times("a", 60), times("A", 60), times("a", 59), ""}, {times("c", 30), times("d", 31), "a", times("ab", 30)},
		{around(29, "a"), around(29, "b"), around(29, "d"), "c"},
	}
}

func TestPromise9Words(t *testing.T) {
	for _, list := range lists() {
		kept := slices.Clone(list)
		for _, s := range append(allWords(3), longWords()...) {
			call := fmt.Sprintf("WordPut(%q, %q)", s, list)
			got, ok := impl.WordPut(s, list)
			wantIfShort(t, call, got, ok, putSlowly(s, list))
			inverse, also := impl.WordPut(turn(t, s), list)
			if ok != also {
				t.Errorf("%s returned %v, and for the inverse %v", call, ok, also)
			} else if ok && inverse != turn(t, got) {
				t.Errorf("%s is %q, and for the inverse %q", call, got, inverse)
			}
		}
		if !slices.Equal(list, kept) {
			t.Errorf("WordPut changed its list to %q", list)
		}
	}
	for _, s := range append(allWords(3), longWords()...) {
		got, ok := impl.WordPut(s, generators)
		wantText(t, fmt.Sprintf("WordPut(%q) with the generators", s), got, ok, s)
	}
}

func TestPromise9Examples(t *testing.T) {
	for _, put := range []struct {
		word string
		list []string
		want string
	}{
		{"ab", []string{"b", "A", "c", "d"}, "bA"}, {"ab", []string{"c", "C", "a", "b"}, ""}, {"aB", []string{"ab", "ab", "", ""}, ""},
		{"AB", []string{"ab", "cd", "", ""}, "BADC"}, {"a", []string{"dcba", "", "", ""}, "dcba"}, {"", []string{"a", "a", "a", "a"}, ""},
		{"abcd", []string{"", "", "", ""}, ""}, {"abcd", []string{"d", "c", "b", "a"}, "dcba"}, {"D", []string{"", "", "", "ab"}, "BA"},
		{"a", []string{times("b", 60), "", "", ""}, times("b", 60)}, {"aa", []string{times("b", 30), "", "", ""}, times("b", 60)},
		{"ab", []string{times("a", 60), times("A", 59), "", ""}, "a"}, {times("aB", 30), []string{times("ab", 30), times("ab", 30), "", ""}, ""},
		{"abc", []string{times("a", 60), times("b", 60), times("B", 60), ""}, times("a", 60)},
		{times("a", 60), []string{"", "b", "c", "d"}, ""}, {"aa", []string{around(29, "a"), "", "", ""}, around(29, "aa")},
	} {
		got, ok := impl.WordPut(put.word, put.list)
		wantText(t, fmt.Sprintf("WordPut(%q, %q)", put.word, put.list), got, ok, put.want)
	}
}

func TestPromise9Failures(t *testing.T) {
	five := []string{"a", "b", "c", "d", "a"}
	for _, list := range [][]string{nil, {}, {"a"}, {"a", "b"}, {"a", "b", "c"}, five, slices.Repeat(generators, 2), make([]string, 1000000)} {
		for _, s := range []string{"", "a", "ab"} {
			got, ok := impl.WordPut(s, list)
			wantFailure(t, fmt.Sprintf("WordPut(%q) with %d words", s, len(list)), got, ok)
		}
	}
	for _, put := range []struct {
		word string
		list []string
	}{
		{"aa", []string{times("b", 31), "", "", ""}}, {"A", []string{times("b", 61), "", "", ""}}, {"ab", []string{times("a", 60), "b", "", ""}},
		{"aaa", []string{around(29, "a"), "", "", ""}}, {times("ab", 30), []string{"a", "bb", "", ""}},
	} {
		got, ok := impl.WordPut(put.word, put.list)
		wantFailure(t, fmt.Sprintf("WordPut(%q, %q)", put.word, put.list), got, ok)
	}
}

func TestPromise9Invalid(t *testing.T) {
	for _, s := range noWords() {
		got, ok := impl.WordPut(s, generators)
		wantFailure(t, fmt.Sprintf("WordPut(%q)", s), got, ok)
		got, ok = impl.WordPut(s, []string{"", "", "", ""})
		wantFailure(t, fmt.Sprintf("WordPut(%q)", s), got, ok)
		for g := range generators { // no word is put where it stands, or just where it is left out
			list := slices.Clone(generators)
			list[g] = s
			for _, into := range []string{"", "a", generators[g]} {
				got, ok := impl.WordPut(into, list)
				wantFailure(t, fmt.Sprintf("WordPut(%q, %q)", into, list), got, ok)
			}
		}
	}
}

// Promise 10: If WordCore succeeds, WordCore of it is it, its sums are those of the word, and it has at most as many letters.

func TestPromise10Words(t *testing.T) {
	for _, s := range append(allWords(5), longWords()...) {
		core, ok := impl.WordCore(s)
		call := fmt.Sprintf("WordCore(%q)", s)
		wantText(t, call, core, ok, coreSlowly(s))
		again, ok := impl.WordCore(core)
		wantText(t, call+" again", again, ok, core)
		if !slices.Equal(sums(t, core), sums(t, s)) || len(core) > len(s) {
			t.Errorf("%s returned %q", call, core)
		}
	}
}

func TestPromise10Examples(t *testing.T) {
	for s, want := range map[string]string{
		"": "", "a": "a", "A": "A", "aa": "aa", "ab": "ab", "aba": "aba", "abA": "b", "Aba": "b", "abcBA": "c", "abccBA": "cc",
		"abAB": "abAB", "abaBA": "a", "abABA": "A", "dabD": "ab", "DbbABd": "bA", around(29, "a"): "a", around(29, "ab"): "ab",
		around(29, "aa"): "aa", times("a", 60): times("a", 60), times("ab", 30): times("ab", 30),
	} {
		got, ok := impl.WordCore(s)
		wantText(t, fmt.Sprintf("WordCore(%q)", s), got, ok, want)
	}
}

func TestPromise10Invalid(t *testing.T) {
	for _, s := range noWords() {
		got, ok := impl.WordCore(s)
		wantFailure(t, fmt.Sprintf("WordCore(%q)", s), got, ok)
	}
}

// The general rules: what was returned ahead does not change what is returned.

func TestWordsKeepNoState(t *testing.T) {
	for range 3 {
		got, ok := impl.WordReduce("abBAc")
		wantText(t, "WordReduce", got, ok, "c")
		got, ok = impl.WordReduce("aAe")
		wantFailure(t, "WordReduce", got, ok)
		got, ok = impl.WordTimes(times("a", 60), "b")
		wantFailure(t, "WordTimes", got, ok)
		got, ok = impl.WordReduce("")
		wantText(t, "WordReduce", got, ok, "")
	}
}
