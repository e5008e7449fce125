package tests

import (
	"fmt"
	"math"
	"slices"
	"strings"
	"testing"

	"loop.example/foxcalculus/impl"
)

// foxSlowly returns, for a generator, the terms of the derivative of a word, one for each of its letters that is it or its inverse.
func foxSlowly(s string, g int) terms {
	var list terms
	for i := range len(s) {
		switch s[i : i+1] {
		case generators[g]:
			list = append(list, term(1, s[:i]))
		case strings.ToUpper(generators[g]):
			list = append(list, term(-1, s[:i+1]))
		}
	}
	return list
}

// foxSumSlowly returns the terms of the derivatives of all words of a sum.
func foxSumSlowly(sum terms, g int) terms {
	var list terms
	for _, x := range sum {
		list = append(list, withCoefs(foxSlowly(x.Word, g), x.Coef)...)
	}
	return list
}

func foxTwiceSlowly(s string, g, h int) int {
	return plainSlowly(foxSumSlowly(foxSlowly(s, g), h))
}

// backSlowly returns what FoxBack makes of four sums, and whether all products and the result are told.
func backSlowly(list []terms) (terms, bool) {
	var all terms
	for g, sum := range list {
		product, told := sumSlowly(productSlowly(sum, terms{term(-1, ""), term(1, generators[g])}))
		if !told {
			return nil, false
		}
		all = append(all, product...)
	}
	return sumSlowly(all)
}

// inverseWords returns words with inverse letters at the beginning, in the middle and at the end, up to 60 letters.
func inverseWords() []string {
	words := []string{"abAB", "baBA", "AbAbA", "aBcDaBcD", "ABCD", "DCBA", "CbaD", "aabCDDD", "DbbABd"}
	for _, s := range []string{"A", "B", "C", "D"} {
		other := "c"
		if s == "C" {
			other = "b"
		}
		words = append(words, s+times(other, 59), times(other, 59)+s, times(other, 29)+s+times(other, 30), s+times(other, 58)+s, times(s, 60))
	}
	return append(words, times("aB", 30), times("Ab", 30), times("abAB", 15), times("ABCD", 15), times("abcd", 15), times("dCbA", 15), times("bA", 30), "ab"+times("c", 58))
}

// foxWords returns words whose derivatives are looked at: short ones, and those that meet the limits.
func foxWords() []string {
	return slices.Concat(allWords(3), longWords(), inverseWords())
}

// otherIndexes returns numbers that are no indexes of generators.
func otherIndexes() []int {
	return []int{-1, 4, -2, 5, -3, -4, 7, 8, 'a', 'b', 'A', 256, -256, 257, 1 << 32, 1<<32 + 1, -1 << 32, math.MaxInt, math.MinInt, math.MinInt + 1}
}

// manyTerms returns sums of which the derivatives by a have so many terms, 297 and more.
func manyTerms(n int) terms {
	words := []string{times("a", 60), times("A", 60), "b" + times("a", 59), "B" + times("a", 59), "c" + times("a", 59)}
	if n > 297 {
		words = append(words, "d"+times("a", n-297))
	}
	var list terms
	for _, s := range words {
		list = append(list, term(1, s))
	}
	return gatherSlowly(list)
}

// derivedSums returns sums of which the derivatives meet the limits, or cancel.
func derivedSums() []terms {
	return []terms{
		{term(million, "a")}, {term(-million, "a")}, {term(million, "A")}, {term(-million, "A")}, {term(million, "bA")},
		{term(million, "a"), term(1, "ab")}, {term(million, "a"), term(-1, "ab")}, {term(-million, "a"), term(-1, "ab")}, {term(-million, "a"), term(1, "ab")},
		{term(million-1, "a"), term(1, "ab")}, {term(1-million, "a"), term(-1, "ab")}, {term(million, "A"), term(1, "AB")}, {term(-million, "A"), term(-1, "AB")},
		{term(1, "a"), term(million, "aB"), term(-1, "ab")}, {term(million, "a"), term(million, "aB"), term(-million, "ab")}, {term(500000, "aa"), term(500001, "ab")},
		{term(million, "aa"), term(-million, "ab")}, {term(million, "aa"), term(-million, "bb")}, {term(million, "aa"), term(1, "aaa")},
		{term(-1, "a"), term(1, "ab")}, {term(5, "a"), term(-5, "aB")}, {term(1, "A"), term(-1, "AB")}, {term(7, "Ab"), term(-7, "bA"), term(7, "bAc")},
		{term(1, "a"), term(1, "aB"), term(-2, "ab")}, {term(3, "b"), term(1, "c"), term(-3, "bC")}, {term(1, times("a", 59)+"b"), term(-1, times("a", 59)+"c")},
		manyTerms(297), manyTerms(299), manyTerms(300), manyTerms(301), manyTerms(302), manyTerms(310), withCoefs(manyTerms(300), -million), withCoefs(manyTerms(301), million),
		withWords(grid(12, 25), func(s string) string { return s + "c" }), withWords(grid(12, 25), func(s string) string { return s + "C" }),
		gatherSlowly(withWords(grid(12, 25), func(s string) string { return s + "dd" })), gatherSlowly(append(withWords(grid(12, 25)[1:], func(s string) string { return s + "d" }), term(1, "Cdd"))),
	}
}

// alternating returns words of 60 letters, each letter beside two others, so that no two words begin alike.
func alternating() []string {
	var words []string
	for _, s := range []string{"acbd", "ACBD", "cbda", "CBDA", "bdac", "BDAC", "dacb", "DACB"} {
		words = append(words, times(s, 15))
	}
	return words
}

// fox returns the derivative of a word.
func fox(t *testing.T, s string, g int) terms {
	t.Helper()
	got, ok := impl.FoxOf(s, g)
	if !ok {
		t.Errorf("FoxOf(%q, %d) failed", s, g)
	}
	return got
}

// wantBack wants what FoxBack makes of four sums, or a failure.
func wantBack(t *testing.T, list []terms) (terms, bool) {
	t.Helper()
	call := "FoxBack of " + briefAll(list)
	got, ok := impl.FoxBack(list)
	want, told := backSlowly(list)
	if told {
		wantSum(t, call, got, ok, want)
	} else {
		wantNoSum(t, call, got, ok)
	}
	return got, ok
}

func wantNoLists(t *testing.T, call string, got []terms, ok bool) {
	t.Helper()
	if ok || len(got) != 0 {
		t.Errorf("%s returned %s, %v: it must fail", call, briefAll(got), ok)
	}
}

func wantNoNumber(t *testing.T, call string, got int, ok bool) {
	t.Helper()
	if ok || got != 0 {
		t.Errorf("%s returned %d, %v: it must fail", call, got, ok)
	}
}

// briefAll tells lists of terms in not too many signs.
func briefAll(list []terms) string {
	var out strings.Builder
	for _, sum := range list[:min(len(list), 5)] {
		fmt.Fprintf(&out, "[%s] ", brief(sum))
	}
	fmt.Fprintf(&out, "(%d lists)", len(list))
	return out.String()
}

// cloneAll returns a copy of lists of terms.
func cloneAll(list []terms) []terms {
	var copies []terms
	for _, sum := range list {
		copies = append(copies, slices.Clone(sum))
	}
	return copies
}

func equalAll(a, b []terms) bool {
	return slices.EqualFunc(a, b, slices.Equal[terms])
}
