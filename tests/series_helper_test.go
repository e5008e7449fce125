package tests

import (
	"fmt"
	"math"
	"slices"
	"strings"
	"testing"

	"loop.example/foxcalculus/impl"
)

// allMonomials returns all monomials of at most n letters, in the order of a series: 341 for n = 4.
func allMonomials(n int) []string {
	return textsOf("abcd", n)
}

func isMonomialSlowly(s string) bool {
	return slices.Contains(allMonomials(4), s)
}

// isSeriesSlowly reports whether a list is a series: its monomials are some of all of them, in their order.
func isSeriesSlowly(list terms) bool {
	rest := allMonomials(4)
	for _, x := range list {
		i := slices.Index(rest, x.Word)
		if i < 0 || !isCoefSlowly(x.Coef) || x.Coef == 0 {
			return false
		}
		rest = rest[i+1:]
	}
	return true
}

// seriesWith returns the terms of all monomials for which a function returns a coefficient that is not 0.
func seriesWith(coef func(m string) int) terms {
	list := terms{}
	for _, m := range allMonomials(4) {
		if n := coef(m); n != 0 {
			list = append(list, term(n, m))
		}
	}
	return list
}

// full returns all 341 monomials with a coefficient.
func full(n int) terms {
	return seriesWith(func(string) int { return n })
}

func inLimitsSlowly(list terms) bool {
	return !slices.ContainsFunc(list, func(x impl.Term) bool { return !isCoefSlowly(x.Coef) })
}

// letterCoefSlowly returns the coefficient of a text of generators in the series of a letter.
func letterCoefSlowly(sign, m string) int {
	generator := strings.ToLower(sign)
	switch {
	case m == "":
		return 1
	case sign == generator && m == generator:
		return 1
	case sign == generator || m != times(generator, len(m)):
		return 0
	}
	return 1 - 2*(len(m)%2)
}

// coefSlowly returns the coefficient of a monomial in the series of a word: letter by letter, that of each beginning of the monomial.
func coefSlowly(s, m string) int {
	coefs := make([]int, len(m)+1)
	coefs[0] = 1
	for l := range len(s) {
		next := make([]int, len(coefs))
		for k := range next {
			for i := range k + 1 {
				next[k] += coefs[i] * letterCoefSlowly(s[l:l+1], m[i:k])
			}
		}
		coefs = next
	}
	return coefs[len(m)]
}

func seriesSlowly(s string) terms {
	return seriesWith(func(m string) int { return coefSlowly(s, m) })
}

func depthSlowly(s string) int {
	for _, x := range seriesSlowly(s) {
		if x.Word != "" {
			return len(x.Word)
		}
	}
	return 0
}

func coefsOf(list terms) map[string]int {
	coefs := map[string]int{}
	for _, x := range list {
		coefs[x.Word] += x.Coef
	}
	return coefs
}

// seriesProductSlowly returns the product of series, with too great coefficients, too: for each monomial over all its cuts in two.
func seriesProductSlowly(a, b terms) terms {
	first, second := coefsOf(a), coefsOf(b)
	return seriesWith(func(m string) int {
		n := 0
		for i := range len(m) + 1 {
			n += first[m[:i]] * second[m[i:]]
		}
		return n
	})
}

// oneLessSlowly returns 1 less the series.
func oneLessSlowly(a terms) terms {
	return gatherSlowly(append(withCoefs(a, -1), one()...))
}

// powersTold reports whether the powers 1 to 5 of 1 less the series are series.
func powersTold(a terms) bool {
	power := one()
	for range 5 {
		power = seriesProductSlowly(power, oneLessSlowly(a))
		if !inLimitsSlowly(power) {
			return false
		}
	}
	return true
}

// inverseSlowly returns the series whose product with one that has 1 with the coefficient 1 is 1, with too great coefficients, too.
func inverseSlowly(a terms) terms {
	coefs, inverse := coefsOf(a), map[string]int{"": 1}
	for _, m := range allMonomials(4)[1:] {
		for i := range len(m) {
			inverse[m] -= inverse[m[:i]] * coefs[m[i:]]
		}
	}
	return seriesWith(func(m string) int { return inverse[m] })
}

// shuffleSlowly counts, for each choice of places for the letters of the first one, the monomial that comes of it.
func shuffleSlowly(a, b string) terms {
	var list terms
	for choice := range 1 << (len(a) + len(b)) {
		x, y, m := a, b, ""
		for i := range len(a) + len(b) {
			if choice>>i&1 == 1 && x != "" {
				m, x = m+x[:1], x[1:]
			} else if choice>>i&1 == 0 && y != "" {
				m, y = m+y[:1], y[1:]
			}
		}
		if x+y == "" {
			list = append(list, term(1, m))
		}
	}
	return gatherSlowly(list)
}

// smallSeries returns series of a few terms, 0 and 1 among them, and monomials of all degrees.
func smallSeries() []terms {
	return []terms{
		{}, one(), {term(-1, "")}, {term(2, "")}, {term(1, "a")}, {term(-3, "dc")}, {term(7, "abc")}, {term(1, "abcd")}, {term(-1, "dddd")},
		{term(1, ""), term(1, "a")}, {term(1, ""), term(-1, "b")}, {term(1, "a"), term(1, "b"), term(1, "c"), term(1, "d")},
		{term(1, ""), term(-1, "a"), term(1, "aa"), term(-1, "aaa"), term(1, "aaaa")}, {term(1, ""), term(1, "ab"), term(-1, "ba")},
		{term(1, ""), term(2, "a"), term(-5, "c"), term(3, "aa"), term(1, "ab"), term(-2, "dac"), term(4, "bcbc")},
		{term(1, ""), term(5, "aabb")}, {term(-1, "ab"), term(1, "cd")}, {term(1, "aaa"), term(1, "aab"), term(-1, "aba")}, {term(6, ""), term(3, "cc"), term(-2, "dddd")},
	}
}

// greatSeries returns series that meet the limits.
func greatSeries() []terms {
	return []terms{
		{term(million, "")}, {term(-million, "")}, {term(million, "a")}, {term(-million, "dddd")}, {term(1000, "ab")}, {term(-1000, "cd")}, {term(1001, "b")}, {term(500000, ""), term(500001, "c")},
		{term(1, ""), term(million, "a")}, {term(1, ""), term(-million, "aaa"), term(million, "abcd")}, {term(million, "ab"), term(-million, "abc")}, {term(1, "d"), term(2, "cd")},
		full(1), full(-1), full(7), full(million), full(-million), full(1)[1:], full(3)[:340], full(1)[85:], full(1)[:85],
		slices.Concat(one(), full(-2)[1:]), slices.Concat(one(), full(million)[85:]), slices.Concat(one(), full(1000)[5:]),
		seriesWith(func(m string) int { return strings.Count(m, "a") - 2*strings.Count(m, "b") + len(m) }),
		seriesSlowly(times("a", 60)), seriesSlowly(times("A", 60)), seriesSlowly(times("aB", 30)), seriesSlowly(times("dCbA", 15)),
	}
}

func allSeries() []terms {
	return append(smallSeries(), greatSeries()...)
}

// noMonomials returns texts that are no monomials: with inverse letters, other signs, or too many letters.
func noMonomials() []string {
	texts := []string{"A", "B", "C", "D", "Ab", "aB", "abcD", "Abcd", "aAbb", "aBcd", "aaaA", "aA", "aaaaa", "abcda", "ddddd", "abcdA", "abcd ", " abc", "aaa\n", "abce"}
	return slices.Concat(texts, noTexts(), []string{times("a", 6), times("abcd", 15), times("a", 61), times("abcd", 100000)})
}

// noSeriesTerms returns lists that are no series because of one of their terms alone.
func noSeriesTerms() []terms {
	lists := []terms{{term(0, "")}, {term(0, "a")}, {term(0, "abcd")}, {term(1, ""), term(0, "a")}, {term(0, ""), term(1, "a")}, {term(1, ""), term(0, "a"), term(1, "b")}}
	for _, n := range []int{million + 1, -million - 1, 2 * million, math.MaxInt, math.MinInt, 1 << 32, 1<<32 + 1, -1<<32 - 1} {
		lists = append(lists, terms{term(n, "")}, terms{term(n, "a")}, terms{term(n, "dddd")}, terms{term(1, ""), term(n, "a")}, terms{term(1, ""), term(n, "b"), term(1, "abcd")})
	}
	for _, s := range noMonomials() {
		lists = append(lists, terms{term(1, s)}, terms{term(1, ""), term(1, s)}, terms{term(0, s)})
	}
	for _, s := range []string{"aaaaa", "abcda", "ddddd"} {
		lists = append(lists, terms{term(1, ""), term(1, "a"), term(1, s)}, append(full(1), term(1, s)))
	}
	for i := range 341 {
		zero, great := full(1), full(-1)
		zero[i].Coef, great[i].Coef = 0, -million-1
		lists = append(lists, zero, great)
	}
	return lists
}

// noSeries returns lists of terms that are no series.
func noSeries() []terms {
	return append(noSeriesTerms(),
		terms{term(1, "a"), term(1, "")}, terms{term(1, "b"), term(1, "a")}, terms{term(1, "aa"), term(1, "b")}, terms{term(1, "dddd"), term(1, "dddc")}, terms{term(1, "abcd"), term(1, "a")},
		terms{term(1, ""), term(1, "b"), term(1, "a")}, terms{term(1, "b"), term(1, "aa"), term(1, "ab"), term(1, "d")}, terms{term(1, "B"), term(1, "a")},
		terms{term(1, ""), term(1, "")}, terms{term(1, "a"), term(1, "a")}, terms{term(1, "a"), term(-1, "a")}, terms{term(1, ""), term(1, "abcd"), term(2, "abcd")},
		reversed(full(1)), append(full(1), term(1, "dddd")), slices.Insert(full(1), 1, term(1, "")), slices.Insert(full(1), 200, full(1)[200]), append(full(1), full(1)[:59]...), append(full(1), full(1)[:60]...),
		make(terms, 1), make(terms, 341), make(terms, 400), make(terms, 401), slices.Repeat(one(), 400), slices.Repeat(one(), 401), make(terms, 1000000),
	)
}

// wantSeriesOnly calls f with lists that are no series, and wants it to fail.
func wantSeriesOnly(t *testing.T, call string, f func(list terms) (terms, bool)) {
	t.Helper()
	for _, list := range noSeries() {
		got, ok := f(list)
		wantNoSum(t, call+" of "+brief(list), got, ok)
	}
}

// wantSeries wants a series if its coefficients are in the limits, and otherwise a failure.
func wantSeries(t *testing.T, call string, got terms, ok bool, want terms) {
	t.Helper()
	if inLimitsSlowly(want) {
		wantSum(t, call, got, ok, want)
	} else {
		wantNoSum(t, call, got, ok)
	}
}

func wantNumber(t *testing.T, call string, got int, ok bool, want int) {
	t.Helper()
	if !ok || got != want {
		t.Errorf("%s returned %d, %v, not %d", call, got, ok, want)
	}
}

// seriesOf returns the series of a word.
func seriesOf(t *testing.T, s string) terms {
	t.Helper()
	got, ok := impl.SeriesOf(s)
	if !ok {
		t.Errorf("SeriesOf(%q) failed", s)
	}
	return got
}

func seriesCoef(t *testing.T, s, m string) int {
	t.Helper()
	got, ok := impl.SeriesCoef(s, m)
	if !ok {
		t.Errorf("SeriesCoef(%q, %q) failed", s, m)
	}
	return got
}

func depth(t *testing.T, s string) int {
	t.Helper()
	got, ok := impl.SeriesDepth(s)
	if !ok {
		t.Errorf("SeriesDepth(%q) failed", s)
	}
	return got
}

// nested returns the commutator of the first two words, of it and the third one, and so on.
func nested(t *testing.T, list ...string) string {
	t.Helper()
	word := list[0]
	for _, next := range list[1:] {
		got, ok := impl.WordComm(word, next)
		if !ok {
			t.Fatalf("WordComm(%q, %q) failed", word, next)
		}
		word = got
	}
	return word
}

// deepWords returns words whose sums of letters are 0, of all depths and deeper than a series tells.
func deepWords(t *testing.T) []string {
	return []string{
		nested(t, "a", "b"), nested(t, "D", "c"), nested(t, "aa", "bb"), nested(t, "ab", "cd"), nested(t, times("a", 15), times("b", 15)), "abCBAc", "aabAAB",
		nested(t, "a", "b", "c"), nested(t, "a", "b", "a"), nested(t, "C", "d", "d"), nested(t, "a", "b", "bb"),
		nested(t, "a", "b", "a", "b"), nested(t, "a", "b", "c", "d"), nested(t, nested(t, "a", "b"), nested(t, "c", "d")), nested(t, nested(t, "a", "b"), nested(t, "a", "c")),
		nested(t, "a", "b", "a", "a", "b"), nested(t, "a", "b", "c", "d", "a"), nested(t, nested(t, "a", "b", "a"), nested(t, "a", "b")), nested(t, nested(t, "a", "b", "c"), nested(t, "d", "a")),
	}
}

// seriesWords returns words whose series are looked at: short ones, those that meet the limits, and deep ones.
func seriesWords(t *testing.T) []string {
	return slices.Concat(allWords(3), longWords(), inverseWords(), alternating(), deepWords(t))
}

func callOf(name string, a, b terms) string {
	return fmt.Sprintf("%s of %s and %s", name, brief(a), brief(b))
}
