package tests

import (
	"fmt"
	"slices"
	"strings"
	"testing"

	"loop.example/foxcalculus/impl"
)

func TestDegreeMax(t *testing.T) {
	if impl.DegreeMax != 4 {
		t.Errorf("DegreeMax is %d", impl.DegreeMax)
	}
}

// Promise 26: If SeriesIn holds, SeriesTimes of it and 1, on both sides, is it.

// wantSeriesTimesOne wants a list to be a series, and its products with 1 to be it.
func wantSeriesTimesOne(t *testing.T, list terms) {
	t.Helper()
	if !impl.SeriesIn(list) {
		t.Errorf("SeriesIn of %s does not hold", brief(list))
	}
	got, ok := impl.SeriesTimes(list, one())
	wantSum(t, brief(list)+" times 1", got, ok, list)
	got, ok = impl.SeriesTimes(one(), list)
	wantSum(t, "1 times "+brief(list), got, ok, list)
}

func TestPromise26Series(t *testing.T) {
	for _, list := range allSeries() {
		wantSeriesTimesOne(t, list)
	}
}

func TestPromise26Monomials(t *testing.T) {
	for _, m := range allMonomials(4) {
		for _, n := range []int{1, -1, 17, million, -million} {
			wantSeriesTimesOne(t, terms{term(n, m)})
		}
	}
}

func TestPromise26ShortLists(t *testing.T) {
	pool := terms{
		term(1, ""), term(million, "a"), term(0, "a"), term(-million, "b"), term(1, "A"), term(1, "d"), term(3, "ab"), term(1, "ba"), term(1, "aA"),
		term(million+1, "b"), term(-million-1, "c"), term(-2, "abcd"), term(1, "dddd"), term(1, "aaaaa"), term(1, "abcD"),
	}
	wantOfShortLists(t, "SeriesIn", pool, impl.SeriesIn, isSeriesSlowly)
}

func TestPromise26Order(t *testing.T) {
	ordered := full(1)
	for i := range ordered {
		for k := range ordered {
			if got := impl.SeriesIn(terms{ordered[i], ordered[k]}); got != (i < k) {
				t.Errorf("SeriesIn of %q and %q is %v", ordered[i].Word, ordered[k].Word, got)
			}
		}
	}
}

func TestPromise26Limits(t *testing.T) {
	if !impl.SeriesIn(nil) || !impl.SeriesIn(terms{}) {
		t.Error("SeriesIn of the empty list does not hold")
	}
	if n := len(full(1)); n != 341 {
		t.Fatalf("there are %d monomials", n)
	}
	for n := range 342 {
		if list := full(million)[:n]; !impl.SeriesIn(list) {
			t.Errorf("SeriesIn of %d terms does not hold", n)
		}
	}
	for i := range 341 {
		for _, n := range []int{million, -million, million + 1, -million - 1, 0} {
			list := full(1)
			list[i].Coef = n
			if got := impl.SeriesIn(list); got != (n != 0 && isCoefSlowly(n)) {
				t.Errorf("SeriesIn with %d times %q is %v", n, list[i].Word, got)
			}
		}
	}
}

func TestPromise26Texts(t *testing.T) {
	for _, s := range allTexts(5) {
		want := len(s) <= 4 && strings.ToLower(s) == s
		if got := impl.SeriesIn(terms{term(1, s)}); got != want {
			t.Errorf("SeriesIn of %q is %v", s, got)
		}
	}
}

func TestPromise26Invalid(t *testing.T) {
	for _, list := range noSeries() {
		if impl.SeriesIn(list) {
			t.Errorf("SeriesIn of %s holds", brief(list))
		}
	}
	wantSeriesOnly(t, "1 times that", func(list terms) (terms, bool) { return impl.SeriesTimes(one(), list) })
	wantSeriesOnly(t, "that times 1", func(list terms) (terms, bool) { return impl.SeriesTimes(list, one()) })
}

// Promise 27: If SeriesOf succeeds, SeriesTimes of it and that of the inverse, if told, is 1, and its first term is 1.

func TestPromise27Words(t *testing.T) {
	for _, s := range seriesWords(t) {
		call := fmt.Sprintf("SeriesOf(%q)", s)
		got, ok := impl.SeriesOf(s)
		wantSum(t, call, got, ok, seriesSlowly(s))
		if len(got) == 0 || got[0] != term(1, "") {
			t.Fatalf("%s begins with %s", call, brief(got))
		}
		inverse := seriesOf(t, turn(t, s))
		product, ok := impl.SeriesTimes(got, inverse)
		wantSum(t, call+" times that of the inverse", product, ok, one())
		product, ok = impl.SeriesTimes(inverse, got)
		wantSum(t, call+" with that of the inverse ahead", product, ok, one())
	}
}

func TestPromise27Examples(t *testing.T) {
	for _, x := range []struct {
		word string
		want terms
	}{
		{"", one()}, {"a", terms{term(1, ""), term(1, "a")}}, {"b", terms{term(1, ""), term(1, "b")}}, {"c", terms{term(1, ""), term(1, "c")}}, {"d", terms{term(1, ""), term(1, "d")}},
		{"A", terms{term(1, ""), term(-1, "a"), term(1, "aa"), term(-1, "aaa"), term(1, "aaaa")}}, {"D", terms{term(1, ""), term(-1, "d"), term(1, "dd"), term(-1, "ddd"), term(1, "dddd")}},
		{"BB", terms{term(1, ""), term(-2, "b"), term(3, "bb"), term(-4, "bbb"), term(5, "bbbb")}}, {"CCC", terms{term(1, ""), term(-3, "c"), term(6, "cc"), term(-10, "ccc"), term(15, "cccc")}},
		{"aa", terms{term(1, ""), term(2, "a"), term(1, "aa")}}, {"aaaaa", terms{term(1, ""), term(5, "a"), term(10, "aa"), term(10, "aaa"), term(5, "aaaa")}},
		{"ab", terms{term(1, ""), term(1, "a"), term(1, "b"), term(1, "ab")}}, {"ba", terms{term(1, ""), term(1, "a"), term(1, "b"), term(1, "ba")}},
		{"Ab", terms{term(1, ""), term(-1, "a"), term(1, "b"), term(1, "aa"), term(-1, "ab"), term(-1, "aaa"), term(1, "aab"), term(1, "aaaa"), term(-1, "aaab")}},
		{"bA", terms{term(1, ""), term(-1, "a"), term(1, "b"), term(1, "aa"), term(-1, "ba"), term(-1, "aaa"), term(1, "baa"), term(1, "aaaa"), term(-1, "baaa")}},
		{"abAB", terms{
			term(1, ""), term(1, "ab"), term(-1, "ba"), term(-1, "aba"), term(-1, "abb"), term(1, "baa"), term(1, "bab"),
			term(1, "abaa"), term(1, "abab"), term(1, "abbb"), term(-1, "baaa"), term(-1, "baab"), term(-1, "babb"),
		}},
	} {
		got, ok := impl.SeriesOf(x.word)
		wantSum(t, fmt.Sprintf("SeriesOf(%q)", x.word), got, ok, x.want)
	}
	abcd := seriesOf(t, "abcd")
	if len(abcd) != 16 || abcd[15] != term(1, "abcd") {
		t.Errorf("SeriesOf(%q) returned %s", "abcd", brief(abcd))
	}
}

func TestPromise27SixtyLetters(t *testing.T) {
	for i, s := range []string{"a", "b", "c", "d"} {
		power := func(n int) string { return times(s, n) }
		got := seriesOf(t, power(60))
		wantSum(t, "SeriesOf of sixty letters "+s, got, true, terms{term(1, ""), term(60, s), term(1770, power(2)), term(34220, power(3)), term(487635, power(4))})
		got = seriesOf(t, times("ABCD"[i:i+1], 60))
		wantSum(t, "SeriesOf of sixty inverses of "+s, got, true, terms{term(1, ""), term(-60, s), term(1830, power(2)), term(-37820, power(3)), term(595665, power(4))})
	}
	got := seriesOf(t, times("AbCd", 15))
	if len(got) != 341 || got[340].Word != "dddd" || got[340].Coef != 1365 {
		t.Errorf("SeriesOf of sixty letters has the terms %s", brief(got))
	}
}

func TestPromise27Invalid(t *testing.T) {
	for _, s := range noWords() {
		got, ok := impl.SeriesOf(s)
		wantNoSum(t, fmt.Sprintf("SeriesOf(%.70q)", s), got, ok)
	}
	for _, s := range []string{times("A", 61), times("aB", 30) + "c", times("D", 60) + "d"} {
		got, ok := impl.SeriesOf(s)
		wantNoSum(t, fmt.Sprintf("SeriesOf(%q)", s), got, ok)
	}
}

// Promise 28: If WordTimes succeeds, SeriesOf of it is SeriesTimes of both, if told.

func wantSeriesOfProduct(t *testing.T, a, b string) {
	t.Helper()
	product, ok := impl.WordTimes(a, b)
	if !ok {
		return
	}
	want, ok := impl.SeriesTimes(seriesOf(t, a), seriesOf(t, b))
	if !ok {
		t.Errorf("SeriesTimes for %q and %q failed", a, b)
	}
	got, ok := impl.SeriesOf(product)
	wantSum(t, fmt.Sprintf("SeriesOf of %q times %q", a, b), got, ok, want)
}

func TestPromise28Words(t *testing.T) {
	for _, a := range allWords(2) {
		for _, b := range allWords(2) {
			wantSeriesOfProduct(t, a, b)
		}
	}
	for _, a := range slices.Concat(longWords(), inverseWords(), deepWords(t)) {
		for _, b := range []string{"", "a", "B", "Cd", "abAB", "dCCb", times("a", 30), times("BA", 15)} {
			wantSeriesOfProduct(t, a, b)
			wantSeriesOfProduct(t, b, a)
		}
		wantSeriesOfProduct(t, a, turn(t, a))
	}
}

func TestPromise28Examples(t *testing.T) {
	for _, x := range []struct {
		a, b string
		want terms
	}{
		{"", "", one()}, {"a", "A", one()}, {times("B", 60), times("b", 60), one()}, {"ab", "Ba", terms{term(1, ""), term(2, "a"), term(1, "aa")}}, {"a", "a", terms{term(1, ""), term(2, "a"), term(1, "aa")}},
		{"A", "A", terms{term(1, ""), term(-2, "a"), term(3, "aa"), term(-4, "aaa"), term(5, "aaaa")}}, {times("c", 60), times("C", 59), terms{term(1, ""), term(1, "c")}},
		{"aaa", "aa", terms{term(1, ""), term(5, "a"), term(10, "aa"), term(10, "aaa"), term(5, "aaaa")}}, {"b", "a", terms{term(1, ""), term(1, "a"), term(1, "b"), term(1, "ba")}},
	} {
		got, ok := impl.SeriesTimes(seriesOf(t, x.a), seriesOf(t, x.b))
		wantSum(t, fmt.Sprintf("SeriesTimes for %q and %q", x.a, x.b), got, ok, x.want)
		product, _ := impl.WordTimes(x.a, x.b)
		got, ok = impl.SeriesOf(product)
		wantSum(t, fmt.Sprintf("SeriesOf(%q)", product), got, ok, x.want)
	}
}

func TestPromise28Invalid(t *testing.T) {
	for _, x := range [][2]string{{"a", "A"}, {"ab", "Bc"}, {times("a", 60), "b"}, {times("C", 30), times("C", 31)}, {"D", "d"}} { // neither reduced nor short
		got, ok := impl.SeriesOf(x[0] + x[1])
		wantNoSum(t, fmt.Sprintf("SeriesOf(%q)", x[0]+x[1]), got, ok)
	}
}

// Promise 29: If SeriesTimes succeeds, it times the first one is the first one times the product of the second and the first one, if told.

func TestPromise29Pairs(t *testing.T) {
	told, pool := 0, allSeries()
	for _, a := range pool {
		for _, b := range pool {
			call := callOf("SeriesTimes", a, b)
			product, ok := impl.SeriesTimes(a, b)
			wantSeries(t, call, product, ok, seriesProductSlowly(a, b))
			other, also := impl.SeriesTimes(b, a)
			if !ok || !also {
				continue
			}
			left, ok := impl.SeriesTimes(product, a)
			right, also := impl.SeriesTimes(a, other)
			if ok != also || !slices.Equal(left, right) {
				t.Errorf("%s times the first one is %s, and the other way %s", call, brief(left), brief(right))
			}
			if ok && also {
				told++
			}
		}
	}
	if told < 500 {
		t.Errorf("only %d products were told", told)
	}
}

func TestPromise29Monomials(t *testing.T) {
	for _, x := range allMonomials(4) {
		for _, y := range allMonomials(4) {
			got, ok := impl.SeriesTimes(terms{term(3, x)}, terms{term(-2, y)})
			var want terms
			if len(x+y) <= 4 {
				want = terms{term(-6, x+y)}
			}
			wantSum(t, fmt.Sprintf("3 times %q times -2 times %q", x, y), got, ok, want)
		}
	}
}

func TestPromise29Examples(t *testing.T) {
	plus, minus := terms{term(1, ""), term(1, "a")}, terms{term(1, ""), term(-1, "a")}
	for _, x := range []struct {
		a, b, want terms
	}{
		{nil, nil, nil}, {nil, one(), nil}, {one(), terms{}, nil}, {full(1), nil, nil}, {nil, full(1), nil}, {one(), one(), one()}, {terms{term(-1, "")}, terms{term(-1, "")}, one()},
		{plus, minus, terms{term(1, ""), term(-1, "aa")}}, {plus, plus, terms{term(1, ""), term(2, "a"), term(1, "aa")}},
		{terms{term(1, "a")}, terms{term(1, "b")}, terms{term(1, "ab")}}, {terms{term(1, "b")}, terms{term(1, "a")}, terms{term(1, "ba")}},
		{terms{term(1, "a"), term(1, "b")}, terms{term(1, "a"), term(-1, "b")}, terms{term(1, "aa"), term(-1, "ab"), term(1, "ba"), term(-1, "bb")}},
		{terms{term(1, "a"), term(1, "ab")}, terms{term(1, "c"), term(-1, "bc")}, terms{term(1, "ac"), term(-1, "abbc")}}, // two make abc
		{terms{term(1, "abcd")}, plus, terms{term(1, "abcd")}}, {plus, terms{term(1, "abcd")}, terms{term(1, "abcd")}}, {terms{term(1, "abc")}, plus, terms{term(1, "abc"), term(1, "abca")}},
		{terms{term(2, "ab")}, terms{term(5, "cd")}, terms{term(10, "abcd")}}, {terms{term(2, "ab")}, terms{term(5, "cda")}, nil}, {terms{term(1, "abcd")}, terms{term(1, "dcba")}, nil},
		{terms{term(1, "a"), term(1, "aaa")}, terms{term(1, "b"), term(1, "bb"), term(1, "bbbb")}, terms{term(1, "ab"), term(1, "abb"), term(1, "aaab")}},
	} {
		got, ok := impl.SeriesTimes(x.a, x.b)
		wantSum(t, callOf("SeriesTimes", x.a, x.b), got, ok, x.want)
	}
	ways := seriesWith(func(m string) int { return len(m) + 1 })
	got, ok := impl.SeriesTimes(full(1), full(1))
	wantSum(t, "SeriesTimes of all monomials by themselves", got, ok, ways)
	got, ok = impl.SeriesTimes(full(200000), full(-1))
	wantSum(t, "SeriesTimes of all monomials with great coefficients", got, ok, withCoefs(ways, -200000))
}

func TestPromise29Limits(t *testing.T) {
	for _, x := range []struct {
		a, b, want terms
	}{
		{terms{term(1000, "a")}, terms{term(1000, "b")}, terms{term(million, "ab")}}, {terms{term(-1000, "aa")}, terms{term(1000, "bb")}, terms{term(-million, "aabb")}}, {terms{term(million, "")}, terms{term(-1, "d")}, terms{term(-million, "d")}},
		{terms{term(1, ""), term(million-1, "a")}, terms{term(1, ""), term(1, "a")}, terms{term(1, ""), term(million, "a"), term(million-1, "aa")}},
		{terms{term(million, "aaa")}, terms{term(million, "bb")}, nil}, {terms{term(million, "aaaa")}, terms{term(-million, "b"), term(million, "dddd")}, nil}, // left out, however great
		{terms{term(1, ""), term(million, "aaa")}, terms{term(1, ""), term(million, "bb")}, terms{term(1, ""), term(million, "bb"), term(million, "aaa")}},
		{terms{term(million, "ab"), term(-million, "abc")}, terms{term(1, "d"), term(2, "cd")}, terms{term(million, "abd"), term(million, "abcd")}}, // one of the pairs alone is beyond
	} {
		got, ok := impl.SeriesTimes(x.a, x.b)
		wantSum(t, callOf("SeriesTimes", x.a, x.b), got, ok, x.want)
	}
	for _, x := range [][2]terms{
		{{term(1001, "a")}, {term(1000, "b")}}, {{term(-1001, "aa")}, {term(1000, "bb")}}, {{term(million, "")}, {term(2, "d")}}, {{term(million, "ab")}, {term(-million, "cd")}}, {{term(million, "")}, {term(million, "")}},
		{{term(1, ""), term(million, "a")}, {term(1, ""), term(1, "a")}}, {{term(-1, ""), term(-million, "a")}, {term(1, ""), term(1, "a")}}, {{term(500000, ""), term(500001, "a")}, {term(1, ""), term(1, "a")}},
		{full(200001), full(1)}, {full(1), full(-200001)}, {full(million), full(million)}, {full(million), full(-million)},
	} {
		got, ok := impl.SeriesTimes(x[0], x[1])
		wantNoSum(t, callOf("SeriesTimes", x[0], x[1]), got, ok)
	}
}

func TestPromise29Invalid(t *testing.T) {
	for _, a := range []terms{nil, {}, {term(-1, "abcd")}, full(1)} {
		wantSeriesOnly(t, "SeriesTimes of "+brief(a)+" and that", func(list terms) (terms, bool) { return impl.SeriesTimes(a, list) })
		wantSeriesOnly(t, "SeriesTimes with "+brief(a)+" behind", func(list terms) (terms, bool) { return impl.SeriesTimes(list, a) })
	}
	wantSeriesOnly(t, "SeriesTimes of twice that", func(list terms) (terms, bool) { return impl.SeriesTimes(list, list) })
}

// Promise 30: If FoxTwice succeeds, it is SeriesCoef of the monomial of the second and then the first generator, if told.

func TestPromise30Words(t *testing.T) {
	for _, s := range seriesWords(t) {
		for g, first := range generators {
			for h, second := range generators {
				want := foxTwice(t, s, g, h)
				got, ok := impl.SeriesCoef(s, second+first)
				wantNumber(t, fmt.Sprintf("SeriesCoef(%q, %q)", s, second+first), got, ok, want)
			}
		}
	}
}

func TestPromise30Examples(t *testing.T) {
	for _, x := range []struct {
		word     string
		g, h     int
		monomial string
		want     int
	}{
		{"", 0, 1, "ba", 0}, {"ab", 1, 0, "ab", 1}, {"ab", 0, 1, "ba", 0}, {"dc", 2, 3, "dc", 1}, {"abAB", 1, 0, "ab", 1}, {"abAB", 0, 1, "ba", -1}, {"A", 0, 0, "aa", 1}, {"aa", 0, 0, "aa", 1},
		{"AA", 0, 0, "aa", 3}, {"aB", 1, 0, "ab", -1}, {"aB", 0, 1, "ba", 0}, {times("D", 60), 3, 3, "dd", 1830}, {times("ab", 30), 1, 0, "ab", 465}, {times("ab", 30), 0, 1, "ba", 435},
	} {
		if got := foxTwice(t, x.word, x.g, x.h); got != x.want {
			t.Errorf("FoxTwice(%q, %d, %d) returned %d, not %d", x.word, x.g, x.h, got, x.want)
		}
		got, ok := impl.SeriesCoef(x.word, x.monomial)
		wantNumber(t, fmt.Sprintf("SeriesCoef(%q, %q)", x.word, x.monomial), got, ok, x.want)
	}
}

func TestPromise30Invalid(t *testing.T) {
	for _, s := range noWords() {
		for _, m := range []string{"ab", "dd"} {
			got, ok := impl.SeriesCoef(s, m)
			wantNoNumber(t, fmt.Sprintf("SeriesCoef(%.70q, %q)", s, m), got, ok)
		}
	}
	for _, m := range []string{"aB", "Ba", "AB", "aA", "a ", "ae", "a\x00"} {
		got, ok := impl.SeriesCoef("ab", m)
		wantNoNumber(t, fmt.Sprintf("SeriesCoef(%q, %q)", "ab", m), got, ok)
	}
}

// Promise 31: If SeriesCoef succeeds, of the empty monomial it is 1, and of one generator WordSums.

func TestPromise31Words(t *testing.T) {
	for _, s := range seriesWords(t) {
		if got := seriesCoef(t, s, ""); got != 1 {
			t.Errorf("SeriesCoef(%q) of the empty monomial returned %d", s, got)
		}
		for g, want := range sums(t, s) {
			got, ok := impl.SeriesCoef(s, generators[g])
			wantNumber(t, fmt.Sprintf("SeriesCoef(%q, %q)", s, generators[g]), got, ok, want)
		}
	}
}

func TestPromise31Monomials(t *testing.T) {
	for _, s := range append(deepWords(t), "", "a", "D", "BB", "AbCd", "cDcD", times("A", 60), times("b", 60), times("AbCd", 15), times("aB", 30)) {
		for _, m := range allMonomials(4) {
			got, ok := impl.SeriesCoef(s, m)
			wantNumber(t, fmt.Sprintf("SeriesCoef(%q, %q)", s, m), got, ok, coefSlowly(s, m))
		}
	}
}

func TestPromise31Examples(t *testing.T) {
	for _, x := range []struct {
		word, monomial string
		want           int
	}{
		{"", "", 1}, {"", "a", 0}, {"", "dddd", 0}, {"a", "a", 1}, {"a", "aa", 0}, {"A", "", 1}, {"A", "a", -1}, {"A", "aa", 1}, {"A", "aaa", -1}, {"A", "aaaa", 1}, {"A", "b", 0}, {"A", "aab", 0},
		{"abcd", "abcd", 1}, {"abcd", "ad", 1}, {"abcd", "da", 0}, {"abcd", "dcba", 0}, {"ABCD", "abcd", 1}, {"ABCD", "abc", -1}, {"ABCD", "aabb", 1}, {"abAB", "ab", 1}, {"abAB", "ba", -1}, {"abAB", "abbb", 1},
		{times("a", 60), "aaaa", 487635}, {times("A", 60), "aaaa", 595665}, {times("A", 60), "aaa", -37820}, {times("D", 60), "d", -60}, {times("c", 60), "c", 60}, {times("ab", 30), "abab", 35960},
	} {
		got, ok := impl.SeriesCoef(x.word, x.monomial)
		wantNumber(t, fmt.Sprintf("SeriesCoef(%q, %q)", x.word, x.monomial), got, ok, x.want)
	}
}

func TestPromise31Invalid(t *testing.T) {
	for _, s := range noWords() {
		for _, m := range []string{"", "a", "aaaa", "aaaaa", "A"} {
			got, ok := impl.SeriesCoef(s, m)
			wantNoNumber(t, fmt.Sprintf("SeriesCoef(%.70q, %q)", s, m), got, ok)
		}
	}
	for _, m := range noMonomials() {
		for _, s := range []string{"", "a", "A", "abAB", times("A", 60)} {
			got, ok := impl.SeriesCoef(s, m)
			wantNoNumber(t, fmt.Sprintf("SeriesCoef(%q, %.70q)", s, m), got, ok)
		}
	}
}

// Promise 32: If SeriesShuffle succeeds, its coefficients add up to the number of ways to choose the letters of the first one among all, each monomial has as many letters as both together, and it is the same for both exchanged.

func TestPromise32Monomials(t *testing.T) {
	ways := [][]int{{1, 1, 1, 1, 1}, {1, 2, 3, 4}, {1, 3, 6}, {1, 4}, {1}}
	for _, a := range allMonomials(4) {
		for _, b := range allMonomials(4) {
			call := fmt.Sprintf("SeriesShuffle(%q, %q)", a, b)
			got, ok := impl.SeriesShuffle(a, b)
			if len(a+b) > 4 {
				wantNoSum(t, call, got, ok)
				continue
			}
			wantSum(t, call, got, ok, shuffleSlowly(a, b))
			if n := plainSlowly(got); n != ways[len(a)][len(b)] || !impl.SeriesIn(got) {
				t.Errorf("%s has the coefficients %d", call, n)
			}
			for _, x := range got {
				if len(x.Word) != len(a+b) {
					t.Errorf("%s has the monomial %q", call, x.Word)
				}
			}
			exchanged, ok := impl.SeriesShuffle(b, a)
			wantSum(t, call+" exchanged", exchanged, ok, got)
		}
	}
}

func TestPromise32Examples(t *testing.T) {
	for _, x := range []struct {
		a, b string
		want terms
	}{
		{"", "", one()}, {"", "a", terms{term(1, "a")}}, {"abcd", "", terms{term(1, "abcd")}}, {"", "dddd", terms{term(1, "dddd")}},
		{"a", "b", terms{term(1, "ab"), term(1, "ba")}}, {"b", "a", terms{term(1, "ab"), term(1, "ba")}}, {"a", "a", terms{term(2, "aa")}}, {"aa", "a", terms{term(3, "aaa")}},
		{"aa", "aa", terms{term(6, "aaaa")}}, {"a", "aaa", terms{term(4, "aaaa")}}, {"ddd", "d", terms{term(4, "dddd")}}, {"ab", "a", terms{term(2, "aab"), term(1, "aba")}},
		{"ab", "c", terms{term(1, "abc"), term(1, "acb"), term(1, "cab")}}, {"ab", "ab", terms{term(4, "aabb"), term(2, "abab")}}, {"ab", "ba", terms{term(2, "abba"), term(1, "abab"), term(1, "baba"), term(2, "baab")}},
		{"ab", "cd", terms{term(1, "abcd"), term(1, "acbd"), term(1, "acdb"), term(1, "cabd"), term(1, "cadb"), term(1, "cdab")}},
		{"abc", "d", terms{term(1, "abcd"), term(1, "abdc"), term(1, "adbc"), term(1, "dabc")}},
	} {
		got, ok := impl.SeriesShuffle(x.a, x.b)
		wantSum(t, fmt.Sprintf("SeriesShuffle(%q, %q)", x.a, x.b), got, ok, gatherSlowly(x.want))
	}
}

// A word as deep as both monomials together are long has coefficients 0 of all their shuffles together: coefficients and shuffles hold each other.
func TestPromise32DeepWords(t *testing.T) {
	for _, s := range deepWords(t) {
		deep, coefs := depth(t, s), coefsOf(seriesOf(t, s))
		for _, a := range allMonomials(3)[1:] {
			for _, b := range allMonomials(3)[1:] {
				if len(a+b) != deep {
					continue
				}
				list, _ := impl.SeriesShuffle(a, b)
				total := 0
				for _, x := range list {
					total += x.Coef * coefs[x.Word]
				}
				if total != 0 {
					t.Errorf("the shuffles of %q and %q have the coefficients %d in the series of %q", a, b, total, s)
				}
			}
		}
	}
}

func TestPromise32Invalid(t *testing.T) {
	for _, m := range noMonomials() {
		for _, other := range []string{"", "a", "ab", "abcd", m} {
			got, ok := impl.SeriesShuffle(m, other)
			wantNoSum(t, fmt.Sprintf("SeriesShuffle(%.70q, %.70q)", m, other), got, ok)
			got, ok = impl.SeriesShuffle(other, m)
			wantNoSum(t, fmt.Sprintf("SeriesShuffle(%.70q, %.70q)", other, m), got, ok)
		}
	}
	for _, x := range [][2]string{{"abcd", "a"}, {"a", "abcd"}, {"abc", "ab"}, {"ab", "abc"}, {"aaaa", "aaaa"}, {"aaaaa", ""}, {"", "abcda"}} {
		got, ok := impl.SeriesShuffle(x[0], x[1])
		wantNoSum(t, fmt.Sprintf("SeriesShuffle(%q, %q)", x[0], x[1]), got, ok)
	}
}

// Promise 33: If WordComm succeeds, its depth, if told, is 0 or at least 2, and its coefficient of ab is the difference of both products of sums of letters a of one and b of the other one.

func TestPromise33Words(t *testing.T) {
	told := 0
	pairs(func(a, b string) {
		comm, ok := impl.WordComm(a, b)
		if !ok {
			return
		}
		told++
		if n := depth(t, comm); n == 1 || n < 0 {
			t.Errorf("the commutator of %q and %q has the depth %d", a, b, n)
		}
		first, second := sums(t, a), sums(t, b)
		if got, want := seriesCoef(t, comm, "ab"), first[0]*second[1]-first[1]*second[0]; got != want {
			t.Errorf("the commutator of %q and %q has the coefficient %d of ab, not %d", a, b, got, want)
		}
		coefs := coefsOf(seriesOf(t, comm))
		for g := range generators {
			for h := range generators {
				m, want := generators[g]+generators[h], first[g]*second[h]-first[h]*second[g]
				if coefs[m] != want {
					t.Errorf("the series of the commutator of %q and %q has the coefficient %d of %s, not %d", a, b, coefs[m], m, want)
				}
			}
		}
	})
	if told < 3000 {
		t.Errorf("only %d commutators were told", told)
	}
}

func TestPromise33Examples(t *testing.T) {
	for _, x := range []struct {
		a, b        string
		depth, coef int
	}{
		{"", "", 0, 0}, {"a", "", 0, 0}, {"a", "a", 0, 0}, {"ab", "BA", 0, 0}, {"a", "b", 2, 1}, {"b", "a", 2, -1}, {"a", "B", 2, -1}, {"A", "B", 2, 1}, {"aa", "b", 2, 2}, {"aa", "bbb", 2, 6}, {"ab", "b", 2, 1}, {"ab", "ab", 0, 0}, {"ab", "aB", 2, -2},
		{"a", "c", 2, 0}, {"c", "d", 2, 0}, {"ab", "ba", 3, 0}, {"abAB", "a", 3, 0}, {"abAB", "cdCD", 4, 0}, {times("a", 15), times("b", 15), 2, 225}, {times("a", 60), times("a", 60), 0, 0},
	} {
		comm := nested(t, x.a, x.b)
		if got := depth(t, comm); got != x.depth {
			t.Errorf("the commutator of %q and %q has the depth %d, not %d", x.a, x.b, got, x.depth)
		}
		if got := seriesCoef(t, comm, "ab"); got != x.coef {
			t.Errorf("the commutator of %q and %q has the coefficient %d of ab, not %d", x.a, x.b, got, x.coef)
		}
	}
}

func TestPromise33Invalid(t *testing.T) {
	for _, x := range [][2]string{{times("a", 16), times("b", 15)}, {"aA", "b"}, {"a", "e"}} {
		comm, ok := impl.WordComm(x[0], x[1])
		wantFailure(t, fmt.Sprintf("WordComm(%q, %q)", x[0], x[1]), comm, ok)
		whole := x[0] + x[1] + turnSlowly(x[0]) + turnSlowly(x[1]) // neither reduced nor short
		n, ok := impl.SeriesDepth(whole)
		wantNoNumber(t, fmt.Sprintf("SeriesDepth(%q)", whole), n, ok)
		n, ok = impl.SeriesCoef(whole, "ab")
		wantNoNumber(t, fmt.Sprintf("SeriesCoef(%q, %q)", whole, "ab"), n, ok)
	}
}

// Promise 34: If SeriesTurned succeeds, its products with the series, on both sides, are 1, if told.

// wantTurned wants SeriesTurned of a series with 1 with the coefficient 1, or a failure, and returns whether it succeeds.
func wantTurned(t *testing.T, list terms) bool {
	t.Helper()
	call := "SeriesTurned of " + brief(list)
	got, ok := impl.SeriesTurned(list)
	if len(list) == 0 || list[0] != term(1, "") || !powersTold(list) {
		wantNoSum(t, call, got, ok)
		return false
	}
	wantSeries(t, call, got, ok, inverseSlowly(list))
	if !ok {
		return false
	}
	for _, pair := range [][2]terms{{list, got}, {got, list}} {
		product, ok := impl.SeriesTimes(pair[0], pair[1])
		wantSum(t, callOf("SeriesTimes", pair[0], pair[1]), product, ok, one())
	}
	return true
}

func TestPromise34Series(t *testing.T) {
	told := 0
	for _, list := range allSeries() {
		with := append(one(), slices.DeleteFunc(slices.Clone(list), func(x impl.Term) bool { return x.Word == "" })...)
		for _, x := range []terms{list, with} {
			if wantTurned(t, x) {
				told++
			}
		}
	}
	if told < 30 {
		t.Errorf("only %d series were turned", told)
	}
}

func TestPromise34Words(t *testing.T) {
	for _, s := range slices.Concat(allWords(3), deepWords(t)) {
		got, ok := impl.SeriesTurned(seriesOf(t, s))
		wantSum(t, fmt.Sprintf("SeriesTurned for %q", s), got, ok, seriesOf(t, turn(t, s)))
	}
	told := 0
	for _, s := range slices.Concat(longWords(), inverseWords(), alternating()) {
		if wantTurned(t, seriesOf(t, s)) {
			told++
		}
	}
	if told < 5 {
		t.Errorf("only %d series of long words were turned", told)
	}
}

func TestPromise34Examples(t *testing.T) {
	for _, x := range []struct {
		series, want terms
	}{
		{one(), one()}, {terms{term(1, ""), term(1, "a")}, terms{term(1, ""), term(-1, "a"), term(1, "aa"), term(-1, "aaa"), term(1, "aaaa")}},
		{terms{term(1, ""), term(-1, "d")}, terms{term(1, ""), term(1, "d"), term(1, "dd"), term(1, "ddd"), term(1, "dddd")}},
		{terms{term(1, ""), term(2, "b")}, terms{term(1, ""), term(-2, "b"), term(4, "bb"), term(-8, "bbb"), term(16, "bbbb")}},
		{terms{term(1, ""), term(1, "ab")}, terms{term(1, ""), term(-1, "ab"), term(1, "abab")}}, {terms{term(1, ""), term(5, "abc")}, terms{term(1, ""), term(-5, "abc")}},
		{terms{term(1, ""), term(-1, "dddd")}, terms{term(1, ""), term(1, "dddd")}}, {terms{term(1, ""), term(1, "a"), term(1, "aa"), term(1, "aaa"), term(1, "aaaa")}, terms{term(1, ""), term(-1, "a")}},
		{terms{term(1, ""), term(1, "a"), term(-1, "bc")}, terms{term(1, ""), term(-1, "a"), term(1, "aa"), term(1, "bc"), term(-1, "aaa"), term(-1, "abc"), term(-1, "bca"), term(1, "aaaa"), term(1, "aabc"), term(1, "abca"), term(1, "bcaa"), term(1, "bcbc")}},
		{terms{term(1, ""), term(million, "aaa")}, terms{term(1, ""), term(-million, "aaa")}}, {terms{term(1, ""), term(-million, "aaa"), term(million, "abcd")}, terms{term(1, ""), term(million, "aaa"), term(-million, "abcd")}},
		{terms{term(1, ""), term(1000, "ab")}, terms{term(1, ""), term(-1000, "ab"), term(million, "abab")}},
	} {
		got, ok := impl.SeriesTurned(x.series)
		wantSum(t, "SeriesTurned of "+brief(x.series), got, ok, gatherSlowly(x.want))
		wantTurned(t, x.series)
	}
	got, ok := impl.SeriesTurned(full(1))
	wantSum(t, "SeriesTurned of all monomials", got, ok, terms{term(1, ""), term(-1, "a"), term(-1, "b"), term(-1, "c"), term(-1, "d")})
}

func TestPromise34FirstCoefficient(t *testing.T) {
	for _, rest := range append(smallSeries(), full(1)[1:], terms{term(1, "abcd")}) {
		rest = slices.DeleteFunc(slices.Clone(rest), func(x impl.Term) bool { return x.Word == "" })
		for _, n := range []int{0, -1, 2, -2, 3, million, -million} {
			list := gatherSlowly(append(terms{term(n, "")}, rest...))
			if !isSeriesSlowly(list) {
				t.Errorf("%s is no series", brief(list))
			}
			got, ok := impl.SeriesTurned(list)
			wantNoSum(t, "SeriesTurned of "+brief(list), got, ok)
		}
	}
	for _, list := range []terms{nil, {}, {term(1, "a")}, {term(1, "abcd")}} {
		got, ok := impl.SeriesTurned(list)
		wantNoSum(t, "SeriesTurned of "+brief(list), got, ok)
	}
}

// geometric returns the sum of the powers 0 to 4 of n times a.
func geometric(n int) terms {
	return seriesWith(func(m string) int {
		if m != times("a", len(m)) {
			return 0
		}
		power := 1
		for range m {
			power *= n
		}
		return power
	})
}

func TestPromise34Powers(t *testing.T) {
	for _, x := range []struct {
		series terms
		want   bool
	}{
		{terms{term(1, ""), term(31, "a")}, true}, {terms{term(1, ""), term(-31, "a")}, true}, {terms{term(1, ""), term(32, "a")}, false}, {terms{term(1, ""), term(-32, "a")}, false}, // the fourth power
		{terms{term(1, ""), term(100, "a"), term(-100, "ab")}, false}, {terms{term(1, ""), term(101, "a")}, false}, {terms{term(1, ""), term(1000, "ab")}, true}, {terms{term(1, ""), term(1001, "ab")}, false}, {terms{term(1, ""), term(-1001, "b")}, false},
		{terms{term(1, ""), term(1, "a"), term(1000, "aa")}, true}, {terms{term(1, ""), term(1, "a"), term(1001, "aa")}, false}, {terms{term(1, ""), term(1, "a"), term(500001, "aa")}, false},
		{terms{term(1, ""), term(1, "a"), term(499999, "aaa")}, true}, {terms{term(1, ""), term(1, "a"), term(500000, "aaa")}, false}, {terms{term(1, ""), term(1, "a"), term(500001, "aaa")}, false},
		{terms{term(1, ""), term(100, "a"), term(33, "bc")}, false}, {terms{term(1, ""), term(100, "b"), term(100, "cd")}, false}, {terms{term(1, ""), term(10, "b"), term(1000, "cd")}, true},
		{geometric(24), true}, {geometric(25), false}, {geometric(31), false}, {geometric(-24), true}, {geometric(-25), false}, // turned they have two terms
		{terms{term(1, ""), term(million, "abc"), term(-million, "abcd")}, true}, {terms{term(1, ""), term(1, "a"), term(million, "abc")}, true}, {terms{term(1, ""), term(2, "d"), term(million, "abc")}, false},
	} {
		if !isSeriesSlowly(x.series) {
			t.Errorf("%s is no series", brief(x.series))
		}
		if got := wantTurned(t, x.series); got != x.want {
			t.Errorf("SeriesTurned of %s returned %v", brief(x.series), got)
		}
	}
}

func TestPromise34Limits(t *testing.T) {
	// All powers are told, and only the result goes beyond.
	for _, n := range []int{million, -million} {
		list := terms{term(1, ""), term(-1, "a"), term(-n/million, "bc"), term(-n, "abc")}
		if !powersTold(list) || inLimitsSlowly(inverseSlowly(list)) {
			t.Fatalf("%s is no example", brief(list))
		}
		got, ok := impl.SeriesTurned(list)
		wantNoSum(t, "SeriesTurned of "+brief(list), got, ok)
	}
	// The powers 1 and 2 together go beyond, and the result does not.
	list := terms{term(1, ""), term(-1, "a"), term(-1, "b"), term(1, "c"), term(-1, "bc"), term(-million, "abc")}
	got, ok := impl.SeriesTurned(list)
	if coefs := coefsOf(got); !ok || coefs["abc"] != million || coefs["aabc"] != million || coefs["cabc"] != -million {
		t.Errorf("SeriesTurned of %s returned %s, %v", brief(list), brief(got), ok)
	}
	wantTurned(t, list)
}

func TestPromise34Invalid(t *testing.T) {
	wantSeriesOnly(t, "SeriesTurned", impl.SeriesTurned)
}

// Promise 35: If SeriesDepth succeeds, it is from 0 to DegreeMax, that of the inverse is the same, and 0 for the empty word; it is 1 exactly if some sum of letters is not 0.

func TestPromise35Words(t *testing.T) {
	found := map[int]int{}
	for _, s := range seriesWords(t) {
		got, ok := impl.SeriesDepth(s)
		wantNumber(t, fmt.Sprintf("SeriesDepth(%q)", s), got, ok, depthSlowly(s))
		found[got]++
		if other := depth(t, turn(t, s)); other != got {
			t.Errorf("SeriesDepth(%q) returned %d, and for its inverse %d", s, got, other)
		}
		some := slices.ContainsFunc(sums(t, s), func(n int) bool { return n != 0 })
		if got < 0 || got > 4 || (got == 1) != some {
			t.Errorf("SeriesDepth(%q) returned %d", s, got)
		}
	}
	for n := range 5 {
		if found[n] == 0 {
			t.Errorf("no word has the depth %d", n)
		}
	}
}

func TestPromise35Examples(t *testing.T) {
	for _, x := range []struct {
		word string
		want int
	}{
		{"", 0}, {"a", 1}, {"D", 1}, {"aB", 1}, {"abA", 1}, {"abAc", 1}, {times("a", 60), 1}, {times("C", 60), 1}, {times("a", 59) + "B", 1}, {times("abAB", 15), 2}, {"abAB", 2}, {"dcDC", 2}, {"aabAAB", 2}, {"abABcdCD", 2}, {"abABdbDB", 2},
		{nested(t, "a", "b", "c"), 3}, {nested(t, "a", "b", "a"), 3}, {nested(t, "D", "b", "b"), 3}, {"abAB" + "aBAb", 3}, {nested(t, "a", "b", "a", "b"), 4}, {nested(t, "abAB", "cdCD"), 4}, {nested(t, "a", "b", "c", "d"), 4},
		{nested(t, "a", "b", "c", "d", "a"), 0}, {nested(t, "a", "b", "a", "a", "b"), 0}, {nested(t, nested(t, "a", "b", "a"), "abAB"), 0},
	} {
		got, ok := impl.SeriesDepth(x.word)
		wantNumber(t, fmt.Sprintf("SeriesDepth(%q)", x.word), got, ok, x.want)
	}
}

func TestPromise35Invalid(t *testing.T) {
	for _, s := range noWords() {
		got, ok := impl.SeriesDepth(s)
		wantNoNumber(t, fmt.Sprintf("SeriesDepth(%.70q)", s), got, ok)
	}
}

// Promise 36: If WordComm succeeds, its depth, if all are told and it is not 0, is at least the sum of both depths, if these are not 0.

func TestPromise36Words(t *testing.T) {
	compared := 0
	words := append(deepWords(t), "a", "B", "c", "dA", "abc", "CCb", "bCbC")
	for _, a := range words {
		for _, b := range words {
			comm, ok := impl.WordComm(a, b)
			if !ok {
				continue
			}
			got, first, second := depth(t, comm), depth(t, a), depth(t, b)
			if got == 0 || first == 0 || second == 0 {
				continue
			}
			compared++
			if got < first+second {
				t.Errorf("the commutator of %q and %q has the depth %d", a, b, got)
			}
		}
	}
	if compared < 100 {
		t.Errorf("only %d depths were compared", compared)
	}
}

func TestPromise36Examples(t *testing.T) {
	three := nested(t, "a", "b", "c")
	for _, x := range []struct {
		a, b                string
		first, second, comm int
	}{
		{"a", "b", 1, 1, 2}, {"ab", "ba", 1, 1, 3}, {"ab", "cd", 1, 1, 2}, {"abAB", "c", 2, 1, 3}, {"a", "cdCD", 1, 2, 3}, {"abAB", "cdCD", 2, 2, 4}, {three, "d", 3, 1, 4}, {"B", three, 1, 3, 4},
		{three, "abAB", 3, 2, 0}, {three, three, 3, 3, 0}, {"a", "aa", 1, 1, 0}, {"a", "", 1, 0, 0}, {"abAB", "baBA", 2, 2, 0},
	} {
		comm := nested(t, x.a, x.b)
		if first, second, got := depth(t, x.a), depth(t, x.b), depth(t, comm); first != x.first || second != x.second || got != x.comm {
			t.Errorf("%q and %q have the depths %d and %d, and their commutator %d", x.a, x.b, first, second, got)
		}
	}
}

func TestPromise36Invalid(t *testing.T) {
	long := nested(t, "a", "b", "a", "b")
	comm, ok := impl.WordComm(long, "cdCDcdCDc")
	wantFailure(t, "WordComm of long words", comm, ok)
	for _, s := range []string{"abAB" + "baBA", long + turnSlowly(long), long + long + long, "aabAaA", "abAb ", "abAB\n"} {
		got, ok := impl.SeriesDepth(s)
		wantNoNumber(t, fmt.Sprintf("SeriesDepth(%q)", s), got, ok)
	}
}

// The general rules: results have memory of their own, arguments are left, and nothing is kept.

func TestSeriesMemory(t *testing.T) {
	must := func(list terms, _ bool) terms { return list }
	for _, f := range []struct {
		name string
		of   func(a, b terms) terms
	}{
		{"SeriesOf", func(a, b terms) terms { return must(impl.SeriesOf("aBcdA")) }},
		{"SeriesTimes", func(a, b terms) terms { return must(impl.SeriesTimes(a, b)) }},
		{"SeriesTurned", func(a, b terms) terms { return must(impl.SeriesTurned(a)) }},
		{"SeriesShuffle", func(a, b terms) terms { return must(impl.SeriesShuffle("ab", "cd")) }},
	} {
		wantOwnMemoryWith(t, f.name, append(smallSeries(), full(1)), f.of)
	}
	for _, list := range []terms{{term(1, "b"), term(1, "a"), term(0, "")}, reversed(full(1))} {
		kept := slices.Clone(list)
		impl.SeriesIn(list)
		impl.SeriesTurned(list)
		impl.SeriesTimes(list, list)
		if !slices.Equal(list, kept) {
			t.Errorf("a list that is no series was changed to %s", brief(list))
		}
	}
}

func TestSeriesTimesOfOneList(t *testing.T) {
	for _, list := range append(smallSeries(), full(1)) {
		got, ok := impl.SeriesTimes(list, list)
		wantSeries(t, "the square of "+brief(list), got, ok, seriesProductSlowly(list, list))
	}
}

func TestSeriesKeepNoState(t *testing.T) {
	for range 3 {
		got, ok := impl.SeriesOf("BB")
		wantSum(t, "SeriesOf", got, ok, terms{term(1, ""), term(-2, "b"), term(3, "bb"), term(-4, "bbb"), term(5, "bbbb")})
		got, ok = impl.SeriesTurned(terms{term(1, ""), term(32, "b")})
		wantNoSum(t, "SeriesTurned", got, ok)
		got, ok = impl.SeriesTurned(terms{term(1, ""), term(2, "abc")})
		wantSum(t, "SeriesTurned", got, ok, terms{term(1, ""), term(-2, "abc")})
		got, ok = impl.SeriesTimes(full(million), full(million))
		wantNoSum(t, "SeriesTimes", got, ok)
		got, ok = impl.SeriesTimes(terms{term(2, "a")}, terms{term(3, "b")})
		wantSum(t, "SeriesTimes", got, ok, terms{term(6, "ab")})
		got, ok = impl.SeriesShuffle("a", "a")
		wantSum(t, "SeriesShuffle", got, ok, terms{term(2, "aa")})
	}
}
