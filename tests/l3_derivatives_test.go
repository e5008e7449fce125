package tests

import (
	"fmt"
	"slices"
	"testing"

	"loop.example/foxcalculus/impl"
)

// Promise 18: If FoxOf succeeds, SumPlain of it is WordSums of the word for the generator.

func TestPromise18Words(t *testing.T) {
	for _, s := range append(allWords(4), foxWords()...) {
		for g, want := range sums(t, s) {
			call := fmt.Sprintf("FoxOf(%q, %d)", s, g)
			got, ok := impl.FoxOf(s, g)
			wantSum(t, call, got, ok, gatherSlowly(foxSlowly(s, g)))
			if n := sumPlain(t, got); n != want {
				t.Errorf("%s has the coefficients %d, not %d", call, n, want)
			}
		}
	}
}

func TestPromise18Examples(t *testing.T) {
	a59 := times("a", 59)
	for _, x := range []struct {
		word string
		g    int
		want terms
	}{
		{"", 0, nil}, {"", 3, nil}, {"b", 0, nil}, {"bcd", 0, nil}, {"BCD", 0, nil}, {"abc", 3, nil},
		{"a", 0, one()}, {"b", 1, one()}, {"c", 2, one()}, {"d", 3, one()},
		{"A", 0, terms{term(-1, "A")}}, {"B", 1, terms{term(-1, "B")}}, {"C", 2, terms{term(-1, "C")}}, {"D", 3, terms{term(-1, "D")}},
		{"Ab", 0, terms{term(-1, "A")}}, {"bAb", 0, terms{term(-1, "bA")}}, {"bA", 0, terms{term(-1, "bA")}}, {"ab", 1, terms{term(1, "a")}}, {"aB", 1, terms{term(-1, "aB")}},
		{"aa", 0, terms{term(1, ""), term(1, "a")}}, {"AA", 0, terms{term(-1, "A"), term(-1, "AA")}}, {"AbA", 0, terms{term(-1, "A"), term(-1, "AbA")}},
		{"abAB", 0, terms{term(1, ""), term(-1, "abA")}}, {"abAB", 1, terms{term(1, "a"), term(-1, "abAB")}}, {"Aba", 0, terms{term(-1, "A"), term(1, "Ab")}},
		{"dcDC", 3, terms{term(1, ""), term(-1, "dcD")}}, {"dcDC", 2, terms{term(1, "d"), term(-1, "dcDC")}},
		{times("a", 60), 0, grid(60, 1)}, {a59 + "b", 1, terms{term(1, a59)}}, {a59 + "B", 1, terms{term(-1, a59+"B")}}, {"B" + a59, 1, terms{term(-1, "B")}},
	} {
		got, ok := impl.FoxOf(x.word, x.g)
		wantSum(t, fmt.Sprintf("FoxOf(%q, %d)", x.word, x.g), got, ok, x.want)
	}
}

func TestPromise18SixtyLetters(t *testing.T) {
	for g, s := range []string{"A", "B", "C", "D"} {
		got := fox(t, times(s, 60), g)
		if len(got) != 60 || got[0] != term(-1, s) || got[59] != term(-1, times(s, 60)) {
			t.Errorf("the derivative of %s sixty times is %s", s, brief(got))
		}
	}
}

func TestPromise18Invalid(t *testing.T) {
	for _, s := range noWords() {
		for g := range generators {
			got, ok := impl.FoxOf(s, g)
			wantNoSum(t, fmt.Sprintf("FoxOf(%.70q, %d)", s, g), got, ok)
		}
	}
	for _, g := range otherIndexes() {
		for _, s := range []string{"", "a", "A", "abcd", "dA", times("a", 60), "aA", "e"} {
			got, ok := impl.FoxOf(s, g)
			wantNoSum(t, fmt.Sprintf("FoxOf(%q, %d)", s, g), got, ok)
		}
	}
}

// Promise 19: If FoxOf succeeds, the derivative of the word times ab is it and the word times the derivative of ab, if told.

// foxOfProduct returns the derivative of one word and the first word times that of the other one, and whether it is told.
func foxOfProduct(t *testing.T, v, w string, g int) (terms, bool) {
	t.Helper()
	behind, ok := impl.SumTimes(terms{term(1, v)}, fox(t, w, g))
	if !ok {
		return nil, false
	}
	return impl.SumAdd(fox(t, v, g), behind)
}

func TestPromise19Words(t *testing.T) {
	told := 0
	for _, s := range foxWords() {
		for _, behind := range []string{"ab", "a", "B", "BA", "abAB", "cdCD"} {
			product, ok := impl.WordTimes(s, behind)
			if !ok {
				continue
			}
			for g := range generators {
				want, ok := foxOfProduct(t, s, behind, g)
				if !ok {
					continue
				}
				told++
				got, ok := impl.FoxOf(product, g)
				wantSum(t, fmt.Sprintf("FoxOf of %q times %q by %d", s, behind, g), got, ok, want)
			}
		}
	}
	if told < 10000 {
		t.Errorf("only %d derivatives were told", told)
	}
}

func TestPromise19Examples(t *testing.T) {
	c58, b29 := times("c", 58), times("b", 29)
	for _, x := range []struct {
		word, product string
		g             int
		want          terms
	}{
		{"", "ab", 0, one()}, {"", "ab", 1, terms{term(1, "a")}}, {"", "ab", 2, nil}, {"BA", "", 0, nil}, {"BA", "", 1, nil}, {"A", "b", 0, nil}, {"A", "b", 1, one()},
		{"BBA", "B", 1, terms{term(-1, "B")}}, {"bA", "bb", 0, nil}, {"bA", "bb", 1, terms{term(1, ""), term(1, "b")}}, {"aB", "aBab", 1, terms{term(-1, "aB"), term(1, "aBa")}},
		{c58, c58 + "ab", 0, terms{term(1, c58)}}, {c58, c58 + "ab", 1, terms{term(1, c58+"a")}}, {c58 + "BA", c58, 1, nil}, {c58 + "BA", c58, 0, nil},
		{b29 + "c" + b29 + "A", b29 + "c" + b29 + "b", 2, terms{term(1, b29)}},
	} {
		product, ok := impl.WordTimes(x.word, "ab")
		wantText(t, fmt.Sprintf("WordTimes(%q, %q)", x.word, "ab"), product, ok, x.product)
		got, ok := impl.FoxOf(product, x.g)
		wantSum(t, fmt.Sprintf("FoxOf(%q, %d)", product, x.g), got, ok, x.want)
		other, ok := foxOfProduct(t, x.word, "ab", x.g)
		wantSum(t, fmt.Sprintf("the derivative of %q and it times that of ab by %d", x.word, x.g), other, ok, x.want)
	}
}

func TestPromise19Invalid(t *testing.T) {
	for _, s := range []string{times("a", 59) + "ab", times("c", 60) + "ab", "Aab", "BAab", "abA" + "ab", "ab ", "abe"} {
		for g := range generators { // the texts are neither reduced nor cut
			got, ok := impl.FoxOf(s, g)
			wantNoSum(t, fmt.Sprintf("FoxOf(%q, %d)", s, g), got, ok)
		}
	}
	for _, g := range otherIndexes() {
		got, ok := impl.FoxOf("ab", g)
		wantNoSum(t, fmt.Sprintf("FoxOf(%q, %d)", "ab", g), got, ok)
	}
}

// Promise 20: If FoxOf succeeds, the derivative of the inverse is less the inverse times it.

func TestPromise20Words(t *testing.T) {
	for _, s := range foxWords() {
		inverse := turn(t, s)
		for g := range generators {
			want, ok := impl.SumTimes(terms{term(-1, inverse)}, fox(t, s, g))
			if !ok {
				t.Errorf("the inverse of %q times its derivative by %d failed", s, g)
			}
			got, ok := impl.FoxOf(inverse, g)
			wantSum(t, fmt.Sprintf("FoxOf(%q, %d)", inverse, g), got, ok, want)
		}
	}
}

func TestPromise20Examples(t *testing.T) {
	a59 := times("A", 59)
	for _, x := range []struct {
		word          string
		g             int
		want, inverse terms
	}{
		{"", 0, nil, nil}, {"a", 0, one(), terms{term(-1, "A")}}, {"a", 1, nil, nil}, {"ab", 0, one(), terms{term(-1, "BA")}}, {"ab", 1, terms{term(1, "a")}, terms{term(-1, "B")}},
		{"aB", 0, one(), terms{term(-1, "bA")}}, {"aB", 1, terms{term(-1, "aB")}, one()}, {"Dc", 3, terms{term(-1, "D")}, terms{term(1, "C")}},
		{"aab", 0, terms{term(1, ""), term(1, "a")}, terms{term(-1, "BA"), term(-1, "BAA")}}, {"abA", 0, terms{term(1, ""), term(-1, "abA")}, terms{term(1, ""), term(-1, "aBA")}},
		{"b" + a59, 1, one(), terms{term(-1, times("a", 59)+"B")}}, {a59 + "B", 1, terms{term(-1, a59+"B")}, one()}, {a59 + "b", 1, terms{term(1, a59)}, terms{term(-1, "B")}},
	} {
		got, ok := impl.FoxOf(x.word, x.g)
		wantSum(t, fmt.Sprintf("FoxOf(%q, %d)", x.word, x.g), got, ok, x.want)
		inverse := turn(t, x.word)
		got, ok = impl.FoxOf(inverse, x.g)
		wantSum(t, fmt.Sprintf("FoxOf(%q, %d)", inverse, x.g), got, ok, x.inverse)
	}
}

func TestPromise20Invalid(t *testing.T) {
	for _, s := range noWords() {
		for _, text := range []string{s, "A" + s, s + "B"} {
			if isWordSlowly(text) {
				continue
			}
			got, ok := impl.FoxOf(text, 0)
			wantNoSum(t, fmt.Sprintf("FoxOf(%.70q, 0)", text), got, ok)
		}
	}
	for _, g := range otherIndexes() {
		got, ok := impl.FoxOf("BA", g)
		wantNoSum(t, fmt.Sprintf("FoxOf(%q, %d)", "BA", g), got, ok)
	}
}

// Promise 21: If FoxSum succeeds, that of the sum and 1 is the same, and that of twice the sum is twice it, if told.

func TestPromise21Sums(t *testing.T) {
	again, doubled := 0, 0
	for _, sum := range append(allSums(), derivedSums()...) {
		if !isSumSlowly(sum) {
			t.Errorf("%s is no sum", brief(sum))
		}
		for g := range generators {
			call := fmt.Sprintf("FoxSum of %s by %d", brief(sum), g)
			got, ok := impl.FoxSum(sum, g)
			wantGathered(t, call, got, ok, foxSumSlowly(sum, g))
			if !ok {
				continue
			}
			if more, told := impl.SumAdd(sum, one()); told {
				again++
				same, ok := impl.FoxSum(more, g)
				wantSum(t, call+" and 1", same, ok, got)
			}
			twice, told := impl.SumAdd(sum, sum)
			double, also := impl.FoxSum(twice, g)
			if told && also {
				doubled++
				wantSum(t, call+" twice", double, also, withCoefs(got, 2))
			}
		}
	}
	if again < 200 || doubled < 100 {
		t.Errorf("only %d sums with 1 and %d doubled ones were told", again, doubled)
	}
}

func TestPromise21OneWord(t *testing.T) {
	for _, s := range foxWords() {
		for g := range generators {
			for _, n := range []int{1, -1, 3, million, -million} {
				got, ok := impl.FoxSum(terms{term(n, s)}, g)
				wantSum(t, fmt.Sprintf("FoxSum of %d times %q by %d", n, s, g), got, ok, withCoefs(fox(t, s, g), n))
			}
		}
	}
}

func TestPromise21Examples(t *testing.T) {
	a59 := times("a", 59)
	for _, x := range []struct {
		sum  terms
		g    int
		want terms
	}{
		{nil, 0, nil}, {terms{}, 3, nil}, {one(), 0, nil}, {terms{term(million, "")}, 0, nil}, {terms{term(1, "b"), term(1, "c")}, 0, nil},
		{terms{term(2, "a"), term(3, "b")}, 0, terms{term(2, "")}}, {terms{term(2, "a"), term(3, "b")}, 1, terms{term(3, "")}}, {terms{term(2, "A")}, 0, terms{term(-2, "A")}},
		{terms{term(-1, "a"), term(1, "ab")}, 0, nil}, {terms{term(1, "A"), term(-1, "AB")}, 0, nil}, {terms{term(7, "Ab"), term(-7, "bA"), term(7, "bAc")}, 0, terms{term(-7, "A")}},
		{terms{term(1, "a"), term(1, "aB"), term(-2, "ab")}, 0, nil}, {terms{term(5, "aa"), term(-2, "ab")}, 0, terms{term(3, ""), term(5, "a")}},
		{terms{term(1, "bA"), term(1, "aab")}, 0, terms{term(1, ""), term(1, "a"), term(-1, "bA")}}, {terms{term(1, a59+"b"), term(-1, a59+"c")}, 0, nil},
		{terms{term(million, "a")}, 0, terms{term(million, "")}}, {terms{term(million, "A")}, 0, terms{term(-million, "A")}}, {terms{term(-million, "bA")}, 0, terms{term(million, "bA")}},
		{terms{term(million-1, "a"), term(1, "ab")}, 0, terms{term(million, "")}}, {terms{term(1-million, "a"), term(-1, "ab")}, 0, terms{term(-million, "")}},
		{terms{term(million, "a"), term(million, "aB"), term(-million, "ab")}, 0, terms{term(million, "")}}, // two words alone go beyond
		{terms{term(million, "A"), term(-million, times("B", 59)+"A")}, 0, terms{term(-million, "A"), term(million, times("B", 59)+"A")}},
	} {
		got, ok := impl.FoxSum(x.sum, x.g)
		wantSum(t, fmt.Sprintf("FoxSum of %s by %d", brief(x.sum), x.g), got, ok, x.want)
	}
}

func TestPromise21Limits(t *testing.T) {
	for _, n := range []int{297, 299, 300} {
		got, ok := impl.FoxSum(manyTerms(n), 0)
		if !ok || len(got) != n {
			t.Errorf("FoxSum with %d terms returned %d, %v", n, len(got), ok)
		}
	}
	behind := func(list terms, s string) terms { return withWords(list, func(x string) string { return x + s }) }
	got, ok := impl.FoxSum(behind(grid(12, 25), "c"), 2)
	wantSum(t, "FoxSum of 300 words", got, ok, grid(12, 25))
	for _, x := range []struct {
		sum terms
		g   int
	}{
		{manyTerms(301), 0}, {manyTerms(302), 0}, {withCoefs(manyTerms(301), -1), 0}, {gatherSlowly(behind(grid(12, 25), "cc")), 2}, {gatherSlowly(append(behind(grid(12, 25)[1:], "d"), term(1, "Cdd"))), 3},
		{terms{term(million, "a"), term(1, "ab")}, 0}, {terms{term(-million, "a"), term(-1, "ab")}, 0}, {terms{term(million, "A"), term(1, "AB")}, 0}, {terms{term(-million, "A"), term(-1, "AB")}, 0},
		{terms{term(500000, "aa"), term(500001, "ab")}, 0}, {terms{term(million, "aa"), term(1, "aaa")}, 0}, {withCoefs(grid(25, 12), million), 0}, {withCoefs(grid(25, 12), million), 1},
	} {
		if !isSumSlowly(x.sum) {
			t.Errorf("%s is no sum", brief(x.sum))
		}
		got, ok := impl.FoxSum(x.sum, x.g)
		wantNoSum(t, fmt.Sprintf("FoxSum of %s by %d", brief(x.sum), x.g), got, ok)
	}
}

func TestPromise21Invalid(t *testing.T) {
	for g := range generators {
		wantSumsOnly(t, fmt.Sprintf("FoxSum by %d", g), func(list terms) (terms, bool) { return impl.FoxSum(list, g) })
	}
	for _, g := range otherIndexes() {
		for _, sum := range append(smallSums(), nil, terms{term(0, "")}, grid(12, 25)) {
			got, ok := impl.FoxSum(sum, g)
			wantNoSum(t, fmt.Sprintf("FoxSum of %s by %d", brief(sum), g), got, ok)
		}
	}
}

// Promise 22: If FoxAll succeeds, FoxBack of it, if told, is the word less 1.

func TestPromise22Words(t *testing.T) {
	for _, s := range append(foxWords(), alternating()...) {
		all, ok := impl.FoxAll(s)
		if !ok || len(all) != 4 {
			t.Fatalf("FoxAll(%q) returned %s, %v", s, briefAll(all), ok)
		}
		for g, got := range all {
			wantSum(t, fmt.Sprintf("derivative %d of FoxAll(%q)", g, s), got, ok, gatherSlowly(foxSlowly(s, g)))
		}
		back, ok := impl.FoxBack(all)
		wantSum(t, fmt.Sprintf("FoxBack of FoxAll(%q)", s), back, ok, gatherSlowly(terms{term(1, s), term(-1, "")}))
	}
}

func TestPromise22Examples(t *testing.T) {
	for _, x := range []struct {
		word string
		want []terms
	}{
		{"", []terms{nil, nil, nil, nil}}, {"a", []terms{one(), nil, nil, nil}}, {"D", []terms{nil, nil, nil, {term(-1, "D")}}},
		{"abAB", []terms{{term(1, ""), term(-1, "abA")}, {term(1, "a"), term(-1, "abAB")}, nil, nil}},
		{"AbCd", []terms{{term(-1, "A")}, {term(1, "A")}, {term(-1, "AbC")}, {term(1, "AbC")}}},
		{times("D", 3), []terms{nil, nil, nil, {term(-1, "D"), term(-1, "DD"), term(-1, "DDD")}}},
		{times("c", 60), []terms{nil, nil, withWords(grid(60, 1), func(s string) string { return times("c", len(s)) }), nil}},
	} {
		got, ok := impl.FoxAll(x.word)
		if !ok || !equalAll(got, x.want) {
			t.Errorf("FoxAll(%q) returned %s, %v", x.word, briefAll(got), ok)
		}
	}
}

func TestPromise22Invalid(t *testing.T) {
	for _, s := range noWords() {
		got, ok := impl.FoxAll(s)
		wantNoLists(t, fmt.Sprintf("FoxAll(%.70q)", s), got, ok)
	}
}

// Promise 23: If FoxBack succeeds, SumPlain of it is 0, and the derivatives of it are the four sums, if told.

// wantBackAndForth wants what FoxBack makes of four sums, and the sums as its derivatives.
func wantBackAndForth(t *testing.T, list []terms) bool {
	t.Helper()
	got, ok := wantBack(t, list)
	if !ok {
		return false
	}
	if n := sumPlain(t, got); n != 0 {
		t.Errorf("FoxBack of %s has the coefficients %d", briefAll(list), n)
	}
	for g, sum := range list {
		derivative, ok := impl.FoxSum(got, g)
		wantSum(t, fmt.Sprintf("derivative %d of FoxBack of %s", g, briefAll(list)), derivative, ok, sum)
	}
	return true
}

func TestPromise23Lists(t *testing.T) {
	told, pool := 0, smallSums()
	for i, a := range pool {
		for k, b := range pool {
			c, d := pool[(i+k)%len(pool)], pool[(2*i+5*k)%len(pool)]
			for _, list := range [][]terms{{a, b, c, d}, {b, nil, a, nil}, {nil, a, nil, b}} {
				if wantBackAndForth(t, list) {
					told++
				}
			}
		}
	}
	if told < 500 {
		t.Errorf("only %d lists were told", told)
	}
}

func TestPromise23GreatSums(t *testing.T) {
	told := 0
	for _, sum := range append(greatSums(), derivedSums()...) {
		for g := range generators {
			for _, other := range []terms{nil, one(), {term(-1, ""), term(2, "aB")}, {term(million, "bb")}} {
				list := []terms{other, other, other, other}
				list[g] = sum
				if wantBackAndForth(t, list) {
					told++
				}
			}
		}
	}
	if told < 200 {
		t.Errorf("only %d lists were told", told)
	}
}

func TestPromise23Examples(t *testing.T) {
	for _, x := range []struct {
		list []terms
		want terms
	}{
		{[]terms{nil, nil, nil, nil}, nil}, {make([]terms, 4), nil}, {[]terms{{}, {}, {}, {}}, nil}, {[]terms{{}, nil, {}, one()}, terms{term(-1, ""), term(1, "d")}},
		{[]terms{one(), nil, nil, nil}, terms{term(-1, ""), term(1, "a")}}, {[]terms{nil, one(), nil, nil}, terms{term(-1, ""), term(1, "b")}}, {[]terms{nil, nil, one(), nil}, terms{term(-1, ""), term(1, "c")}},
		{[]terms{{term(1, "b")}, nil, nil, nil}, terms{term(-1, "b"), term(1, "ba")}}, // the generator stands behind
		{[]terms{{term(1, "A")}, nil, nil, nil}, terms{term(1, ""), term(-1, "A")}}, {[]terms{one(), {term(1, "a")}, nil, nil}, terms{term(-1, ""), term(1, "ab")}},
		{[]terms{one(), one(), one(), one()}, terms{term(-4, ""), term(1, "a"), term(1, "b"), term(1, "c"), term(1, "d")}},
		{[]terms{{term(1, ""), term(1, "a"), term(1, "aa")}, nil, nil, nil}, terms{term(-1, ""), term(1, "aaa")}},
		{[]terms{nil, nil, nil, {term(2, "D"), term(-3, "c")}}, terms{term(2, ""), term(-2, "D"), term(3, "c"), term(-3, "cd")}},
	} {
		got, ok := impl.FoxBack(x.list)
		wantSum(t, "FoxBack of "+briefAll(x.list), got, ok, x.want)
		wantBackAndForth(t, x.list)
	}
}

func TestPromise23Letters(t *testing.T) {
	for g, s := range generators {
		other := generators[(g+1)%4]
		inverse := turnSlowly(s)
		list := func(word string) []terms {
			lists := make([]terms, 4)
			lists[g] = terms{term(1, word)}
			return lists
		}
		for _, word := range []string{times(other, 59), times(s, 59), times(inverse, 59), times(inverse, 60), times(other, 59) + inverse, times(inverse+other, 29) + inverse + inverse} {
			if !wantBackAndForth(t, list(word)) {
				t.Errorf("FoxBack of %q times %s failed", word, s)
			}
		}
		for _, word := range []string{times(other, 60), times(s, 60), inverse + times(other, 59), times(other, 59) + s, times(inverse+other, 30)} {
			if wantBackAndForth(t, list(word)) {
				t.Errorf("FoxBack of %q times %s succeeded", word, s)
			}
		}
	}
}

func TestPromise23Coefficients(t *testing.T) {
	for _, list := range [][]terms{
		{{term(million, "")}, nil, nil, nil}, {{term(-million, "b")}, nil, nil, nil}, {{term(million, "")}, {term(-million, "")}, nil, nil}, {{term(million-1, "")}, one(), nil, nil},
		{{term(1-million, "")}, {term(-1, "")}, nil, nil}, {{term(1, ""), term(1-million, "a")}, nil, nil, nil}, {{term(600000, ""), term(-400000, "a")}, nil, nil, nil},
		{{term(million, "")}, one(), {term(-1, "")}, nil}, {{term(million, "")}, {term(million, "")}, {term(-million, "")}, {term(-million, "")}}, // the first two alone go beyond
		{one(), {term(million, "")}, nil, {term(-1, "")}}, {nil, {term(-million, "")}, {term(-million, "")}, {term(million, "")}},
	} {
		if !wantBackAndForth(t, list) {
			t.Errorf("FoxBack of %s failed", briefAll(list))
		}
	}
	for _, list := range [][]terms{
		{{term(million, "")}, one(), nil, nil}, {nil, {term(-million, "")}, nil, {term(-1, "")}}, {{term(250000, "")}, {term(250000, "")}, {term(250000, "")}, {term(250001, "")}},
		{{term(million, ""), term(-1, "a")}, nil, nil, nil}, {{term(1, ""), term(-million, "a")}, nil, nil, nil}, {{term(-million, ""), term(1, "a")}, nil, nil, nil},
		{{term(600000, ""), term(-500000, "a")}, {term(200000, "a")}, nil, nil}, // the result alone would be told, but not the product
		{{term(million, ""), term(-1, "a")}, {term(1, "a")}, nil, nil}, {{term(-1, "b")}, {term(million, ""), term(-1, "b")}, nil, nil},
	} {
		if wantBackAndForth(t, list) {
			t.Errorf("FoxBack of %s succeeded", briefAll(list))
		}
	}
}

// unlinked returns so many words of which none is another one with a behind, and none has more than 59 letters.
func unlinked(n int) terms {
	return gatherSlowly(withWords(grid(12, 25)[:n], func(s string) string { return s + "c" }))
}

func TestPromise23Terms(t *testing.T) {
	linked := gatherSlowly(append(unlinked(149), term(1, "d"), term(2, "da")))
	for _, x := range []struct {
		list []terms
		n    int
	}{
		{[]terms{unlinked(149), nil, nil, nil}, 298}, {[]terms{unlinked(150), nil, nil, nil}, 300}, {[]terms{unlinked(149), one(), nil, nil}, 300}, {[]terms{gatherSlowly(append(unlinked(149), term(1, "d"), term(1, "da"))), nil, nil, nil}, 300},
		{[]terms{nil, nil, nil, unlinked(150)}, 300}, {[]terms{unlinked(150), nil, nil, {term(1, "c")}}, 300 + 1}, {[]terms{linked, nil, nil, nil}, 301}, {[]terms{unlinked(151), nil, nil, nil}, 302},
		{[]terms{unlinked(149), one(), nil, one()}, 301}, {[]terms{nil, unlinked(149), {term(1, "A")}, one()}, 302},
	} {
		var all terms
		for g, sum := range x.list {
			all = append(all, productSlowly(sum, terms{term(-1, ""), term(1, generators[g])})...)
		}
		if n := len(gatherSlowly(all)); n != x.n {
			t.Fatalf("the sum for %s has %d terms, not %d", briefAll(x.list), n, x.n)
		}
		if got := wantBackAndForth(t, x.list); got != (x.n <= 300) {
			t.Errorf("FoxBack with %d terms returned %v", x.n, got)
		}
	}
}

func TestPromise23TermsOnTheWay(t *testing.T) {
	lists := func(words []string) []terms {
		list := make([]terms, 4)
		for g := range list {
			for _, s := range words {
				list[g] = append(list[g], foxSlowly(s, g)...)
			}
			list[g] = gatherSlowly(list[g])
		}
		return list
	}
	// All products have at most 300 terms, two of them together have more, and all four have nine.
	got, ok := wantBack(t, lists(alternating()))
	if !ok || len(got) != 9 || !wantBackAndForth(t, lists(alternating())) {
		t.Errorf("FoxBack of what is told on the way returned %s, %v", brief(got), ok)
	}
	var words []string
	for _, s := range []string{"ac", "AC", "ca", "CA", "ba", "BA", "da"} {
		words = append(words, times(s, 30))
	}
	// A product has more than 300 terms, and all four together have a few.
	list := lists(words)
	if product := gatherSlowly(productSlowly(list[0], terms{term(-1, ""), term(1, "a")})); len(product) <= 300 {
		t.Fatalf("the product has only %d terms", len(product))
	}
	if wantBackAndForth(t, list) {
		t.Error("FoxBack with a product of too many terms succeeded")
	}
}

func TestPromise23Invalid(t *testing.T) {
	for _, n := range []int{0, 1, 2, 3, 5, 6, 8, 1000000} {
		for _, sum := range []terms{nil, {}, one(), {term(0, "")}} {
			got, ok := impl.FoxBack(slices.Repeat([]terms{sum}, n))
			wantNoSum(t, fmt.Sprintf("FoxBack of %d times %s", n, brief(sum)), got, ok)
		}
	}
	got, ok := impl.FoxBack(nil)
	wantNoSum(t, "FoxBack of nil", got, ok)
	for g := range generators {
		for _, other := range []terms{nil, one(), {term(1, times("a", 31))}} {
			wantSumsOnly(t, fmt.Sprintf("FoxBack at %d with %s", g, brief(other)), func(sum terms) (terms, bool) {
				list := []terms{other, other, other, other}
				list[g] = sum
				return impl.FoxBack(list)
			})
		}
	}
}

// Promise 24: If WordPut succeeds, its derivative by the generator 0 is the sum, over all generators, of the derivative by it with the words put, times the derivative of its word by the generator 0, if told.

// chained returns the derivative of a word with words put by the chain rule, and whether it is told.
func chained(t *testing.T, s string, list []string, h int) (terms, bool) {
	t.Helper()
	var all terms
	for g, word := range list {
		put, ok := impl.SumPut(fox(t, s, g), list)
		product, also := impl.SumTimes(put, fox(t, word, h))
		if !ok || !also {
			return nil, false
		}
		all = append(all, product...)
	}
	return gatherSlowly(all), true
}

func TestPromise24Words(t *testing.T) {
	told := 0
	for _, list := range lists() {
		for _, s := range foxWords() {
			put, ok := impl.WordPut(s, list)
			if !ok {
				continue
			}
			for h := range generators {
				want, ok := chained(t, s, list, h)
				if !ok {
					continue
				}
				told++
				got, ok := impl.FoxOf(put, h)
				wantSum(t, fmt.Sprintf("FoxOf of %q with %q by %d", s, list, h), got, ok, want)
			}
		}
	}
	if told < 5000 {
		t.Errorf("only %d derivatives were told", told)
	}
}

func TestPromise24Examples(t *testing.T) {
	a30 := times("a", 30)
	for _, x := range []struct {
		word string
		list []string
		put  string
		want terms
	}{
		{"", []string{"b", "c", "d", "a"}, "", nil}, {"b", []string{"", "a", "", ""}, "a", one()}, {"B", []string{"", "a", "", ""}, "A", terms{term(-1, "A")}}, {"a", []string{"b", "a", "", ""}, "b", nil},
		{"aB", []string{"ab", "ab", "", ""}, "", nil}, {"AB", []string{"ab", "c", "", ""}, "BAC", terms{term(-1, "BA")}}, {"ab", []string{"bA", "ab", "", ""}, "bb", nil},
		{"cD", []string{"", "", "Ab", "ab"}, "AA", terms{term(-1, "A"), term(-1, "AA")}}, {"aa", []string{a30, "", "", ""}, times("a", 60), grid(60, 1)},
		{"bA", []string{times("B", 59), "A", "", ""}, "A" + times("b", 59), terms{term(-1, "A")}}, {"ba", []string{"A", times("b", 59), "", ""}, times("b", 59) + "A", terms{term(-1, times("b", 59)+"A")}},
	} {
		put, ok := impl.WordPut(x.word, x.list)
		wantText(t, fmt.Sprintf("WordPut(%q, %q)", x.word, x.list), put, ok, x.put)
		got, ok := impl.FoxOf(put, 0)
		wantSum(t, fmt.Sprintf("FoxOf(%q, 0)", put), got, ok, x.want)
		other, ok := chained(t, x.word, x.list, 0)
		wantSum(t, fmt.Sprintf("the chain rule for %q with %q", x.word, x.list), other, ok, x.want)
	}
}

func TestPromise24Invalid(t *testing.T) {
	for _, x := range []struct {
		word string
		list []string
	}{
		{"aa", []string{times("b", 31), "", "", ""}}, {"ab", []string{times("a", 60), "b", "", ""}}, {"aA", generators}, {"ab", []string{"a", "aA", "", ""}}, {"a", []string{"a", "b", "c"}},
	} {
		put, ok := impl.WordPut(x.word, x.list)
		wantFailure(t, fmt.Sprintf("WordPut(%q, %q)", x.word, x.list), put, ok)
	}
	for _, s := range []string{"aA", "abBc", times("a", 61), times("b", 62), "a" + times("b", 60)} { // what is put, but neither reduced nor short
		got, ok := impl.FoxOf(s, 0)
		wantNoSum(t, fmt.Sprintf("FoxOf(%q, 0)", s), got, ok)
	}
	for _, g := range otherIndexes() {
		put, _ := impl.WordPut("ab", []string{"b", "A", "c", "d"})
		got, ok := impl.FoxOf(put, g)
		wantNoSum(t, fmt.Sprintf("FoxOf(%q, %d)", put, g), got, ok)
	}
}

// Promise 25: If FoxTwice succeeds for unlike generators, it and that of both exchanged add up to the product of both sums of letters.

func foxTwice(t *testing.T, s string, g, h int) int {
	t.Helper()
	got, ok := impl.FoxTwice(s, g, h)
	if !ok {
		t.Errorf("FoxTwice(%q, %d, %d) failed", s, g, h)
	}
	return got
}

func TestPromise25Words(t *testing.T) {
	for _, s := range append(foxWords(), alternating()...) {
		n := sums(t, s)
		for g := range generators {
			for h := range generators {
				got := foxTwice(t, s, g, h)
				if want := foxTwiceSlowly(s, g, h); got != want {
					t.Errorf("FoxTwice(%q, %d, %d) returned %d, not %d", s, g, h, got, want)
				}
				if other := foxTwice(t, s, h, g); g != h && got+other != n[g]*n[h] {
					t.Errorf("FoxTwice(%q) for %d and %d is %d, and exchanged %d", s, g, h, got, other)
				}
			}
		}
	}
}

func TestPromise25Examples(t *testing.T) {
	a30, b30 := times("a", 30), times("b", 30)
	for _, x := range []struct {
		word string
		g, h int
		want int
	}{
		{"", 0, 0, 0}, {"", 0, 1, 0}, {"a", 0, 0, 0}, {"a", 0, 1, 0}, {"A", 0, 0, 1}, {"ab", 1, 0, 1}, {"ab", 0, 1, 0}, {"ba", 0, 1, 1}, {"ba", 1, 0, 0}, {"dc", 2, 3, 1}, {"cd", 3, 2, 1}, {"cd", 2, 3, 0},
		{"abAB", 1, 0, 1}, {"abAB", 0, 1, -1}, {"abAB", 0, 0, 0}, {"abAB", 1, 1, 0}, {"AB", 1, 0, 1}, {"AB", 0, 1, 0}, {"aB", 1, 0, -1}, {"Ab", 1, 0, -1}, {"bA", 0, 1, -1},
		{"aa", 0, 0, 1}, {"aaa", 0, 0, 3}, {"AA", 0, 0, 3}, {"AAA", 0, 0, 6}, {"aba", 0, 0, 1}, {"abA", 0, 0, 0}, {"abcd", 3, 0, 1}, {"abcd", 0, 3, 0},
		{times("a", 60), 0, 0, 1770}, {times("A", 60), 0, 0, 1830}, {times("D", 60), 3, 3, 1830}, {a30 + b30, 1, 0, 900}, {a30 + b30, 0, 1, 0}, {times("A", 30) + b30, 1, 0, -900}, {times("ab", 30), 1, 0, 465}, {times("ab", 30), 0, 1, 435},
	} {
		if got := foxTwice(t, x.word, x.g, x.h); got != x.want {
			t.Errorf("FoxTwice(%q, %d, %d) returned %d, not %d", x.word, x.g, x.h, got, x.want)
		}
	}
}

func TestPromise25Invalid(t *testing.T) {
	for _, s := range noWords() {
		for _, pair := range [][2]int{{0, 0}, {0, 1}, {1, 0}, {3, 2}} {
			got, ok := impl.FoxTwice(s, pair[0], pair[1])
			wantNoNumber(t, fmt.Sprintf("FoxTwice(%.70q, %d, %d)", s, pair[0], pair[1]), got, ok)
		}
	}
	for _, g := range otherIndexes() {
		for _, s := range []string{"", "a", "ab", "AB", times("ab", 30), "aA"} {
			for _, pair := range [][2]int{{g, 0}, {0, g}, {1, g}, {g, 3}, {g, g}} {
				got, ok := impl.FoxTwice(s, pair[0], pair[1])
				wantNoNumber(t, fmt.Sprintf("FoxTwice(%q, %d, %d)", s, pair[0], pair[1]), got, ok)
			}
		}
	}
}

// The general rules: results have memory of their own, arguments are left, and nothing is kept.

func TestDerivativesMemory(t *testing.T) {
	must := func(sum terms, _ bool) terms { return sum }
	for g := range generators {
		wantOwnMemory(t, "FoxOf", func(a, b terms) terms { return must(impl.FoxOf("abABcdCDAA", g)) })
		wantOwnMemory(t, "FoxSum", func(a, b terms) terms { return must(impl.FoxSum(a, g)) })
	}
	wantOwnMemory(t, "FoxBack", func(a, b terms) terms { return must(impl.FoxBack([]terms{a, b, b, a})) })
	wantOwnMemory(t, "FoxBack", func(a, b terms) terms { return must(impl.FoxBack([]terms{nil, a, nil, b})) })
}

func TestFoxAllMemory(t *testing.T) {
	for _, s := range []string{"", "abcd", "abABcdCD", times("aBcD", 15), times("A", 60)} {
		first, _ := impl.FoxAll(s)
		second, _ := impl.FoxAll(s)
		kept := cloneAll(second)
		for g := range first {
			before := cloneAll(first)
			_ = append(first[g], term(13, "z"))
			clear(first[g][:cap(first[g])])
			for h := range first {
				if h != g && !slices.Equal(first[h], before[h]) {
					t.Errorf("the derivatives %d and %d of FoxAll(%q) share memory", g, h, s)
				}
			}
		}
		_ = append(first, one())
		clear(first)
		if !equalAll(second, kept) {
			t.Errorf("results of FoxAll(%q) share memory", s)
		}
	}
}

func TestFoxBackLeavesItsList(t *testing.T) {
	whole := []terms{{term(1, "b"), term(2, "aB")}, one(), nil, {term(-1, "D")}, {term(5, "x")}}
	for _, list := range [][]terms{whole[:4], whole[:3], whole, {{term(1, "b"), term(1, "a")}, one(), one(), one()}} {
		kept := cloneAll(list)
		impl.FoxBack(list)
		if !equalAll(list, kept) || !slices.Equal(whole[4], terms{term(5, "x")}) {
			t.Errorf("FoxBack changed its list to %s", briefAll(list))
		}
	}
}

func TestDerivativesKeepNoState(t *testing.T) {
	for range 3 {
		got, ok := impl.FoxOf("abAB", 0)
		wantSum(t, "FoxOf", got, ok, terms{term(1, ""), term(-1, "abA")})
		got, ok = impl.FoxOf("abAB", 1)
		wantSum(t, "FoxOf", got, ok, terms{term(1, "a"), term(-1, "abAB")})
		got, ok = impl.FoxOf("abAB", 4)
		wantNoSum(t, "FoxOf", got, ok)
		got, ok = impl.FoxSum(terms{term(2, "Ab")}, 0)
		wantSum(t, "FoxSum", got, ok, terms{term(-2, "A")})
		got, ok = impl.FoxSum(terms{term(2, "aA")}, 0)
		wantNoSum(t, "FoxSum", got, ok)
		got, ok = impl.FoxBack([]terms{one(), nil, nil, {term(1, times("a", 60))}})
		wantNoSum(t, "FoxBack", got, ok)
		got, ok = impl.FoxBack([]terms{one(), nil, nil, nil})
		wantSum(t, "FoxBack", got, ok, terms{term(-1, ""), term(1, "a")})
	}
}
