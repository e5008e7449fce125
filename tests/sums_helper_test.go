package tests

import (
	"cmp"
	"fmt"
	"maps"
	"math"
	"slices"
	"strings"
	"testing"

	"loop.example/foxcalculus/impl"
)

const million = 1000000

type terms = []impl.Term

func term(coef int, word string) impl.Term {
	return impl.Term{Coef: coef, Word: word}
}

func one() terms {
	return terms{term(1, "")}
}

// isWordSlowly reports whether a text has at most 60 letters only, none beside its inverse.
func isWordSlowly(s string) bool {
	for _, sign := range []byte(s) {
		if !slices.Contains([]byte(signs), sign) {
			return false
		}
	}
	return len(s) <= 60 && reduceSlowly(s) == s
}

func isCoefSlowly(n int) bool {
	return -million <= n && n <= million
}

// isSumSlowly reports whether a list is a sum.
func isSumSlowly(list terms) bool {
	for i, x := range list {
		if !isWordSlowly(x.Word) || !isCoefSlowly(x.Coef) || x.Coef == 0 {
			return false
		}
		for _, y := range list[:i] {
			if len(y.Word) > len(x.Word) || len(y.Word) == len(x.Word) && y.Word >= x.Word {
				return false
			}
		}
	}
	return len(list) <= 300
}

// brief tells a list of terms in not too many signs.
func brief(list terms) string {
	var out strings.Builder
	for _, x := range list[:min(len(list), 6)] {
		fmt.Fprintf(&out, "%d*%.70q ", x.Coef, x.Word)
	}
	fmt.Fprintf(&out, "(%d terms)", len(list))
	return out.String()
}

// gatherSlowly returns the sum of terms, with too many terms and too great coefficients, too.
func gatherSlowly(list terms) terms {
	coefs := map[string]int{}
	for _, x := range list {
		coefs[x.Word] += x.Coef
	}
	sum := terms{}
	for _, word := range slices.SortedFunc(maps.Keys(coefs), func(a, b string) int {
		return cmp.Or(len(a)-len(b), cmp.Compare(a, b))
	}) {
		if coefs[word] != 0 {
			sum = append(sum, term(coefs[word], word))
		}
	}
	return sum
}

// sumSlowly returns the sum of terms, and whether it is told: no word is too long, and the result is a sum.
func sumSlowly(list terms) (terms, bool) {
	for _, x := range list {
		if len(x.Word) > 60 {
			return nil, false
		}
	}
	sum := gatherSlowly(list)
	for _, x := range sum {
		if !isCoefSlowly(x.Coef) {
			return nil, false
		}
	}
	return sum, len(sum) <= 300
}

func productSlowly(a, b terms) terms {
	var product terms
	for _, x := range a {
		for _, y := range b {
			product = append(product, term(x.Coef*y.Coef, reduceSlowly(x.Word+y.Word)))
		}
	}
	return product
}

func plainSlowly(list terms) int {
	total := 0
	for _, x := range list {
		total += x.Coef
	}
	return total
}

// withWords returns the terms with a function applied to their words.
func withWords(list terms, change func(s string) string) terms {
	changed := terms{}
	for _, x := range list {
		changed = append(changed, term(x.Coef, change(x.Word)))
	}
	return changed
}

// withCoefs returns the terms with their coefficients times a number.
func withCoefs(list terms, n int) terms {
	changed := terms{}
	for _, x := range list {
		changed = append(changed, term(x.Coef*n, x.Word))
	}
	return changed
}

func reversed(list terms) terms {
	list = slices.Clone(list)
	slices.Reverse(list)
	return list
}

// grid returns the sum of all a to a power less than n times b to one less than m.
func grid(n, m int) terms {
	var list terms
	for i := range n {
		for k := range m {
			list = append(list, term(1, times("a", i)+times("b", k)))
		}
	}
	return gatherSlowly(list)
}

// binomial returns 1 and the word, with a sign, to the power of n.
func binomial(word string, sign, n int) terms {
	power := one()
	for range n {
		power = gatherSlowly(productSlowly(power, terms{term(1, ""), term(sign, word)}))
	}
	return power
}

// smallSums returns sums of a few terms, 0 and 1 among them.
func smallSums() []terms {
	return []terms{
		{}, one(), {term(-1, "")}, {term(1, "a")}, {term(-1, "A")}, {term(7, "abAB")},
		{term(1, ""), term(1, "a")}, {term(1, ""), term(-1, "a")}, {term(1, "A"), term(1, "a")}, {term(-1, "B"), term(1, "a")},
		{term(2, ""), term(-3, "A"), term(1, "D"), term(-1, "b"), term(5, "BA"), term(1, "aa")},
		{term(1, ""), term(1, "a"), term(-1, "aB"), term(1, "aa"), term(1, "abA")},
		{term(3, "AA"), term(-3, "Ab"), term(3, "aB"), term(-3, "aa")},
		{term(1, "A"), term(1, "B"), term(1, "C"), term(1, "D"), term(1, "a"), term(1, "b"), term(1, "c"), term(1, "d")},
	}
}

// greatSums returns sums that meet the limits.
func greatSums() []terms {
	return []terms{
		{term(million, "")}, {term(-million, "")}, {term(500000, "b")}, {term(500001, "b")}, {term(-500000, "b")}, {term(1000, ""), term(-1000, "b")}, {term(1001, "A")},
		{term(million, "A"), term(-million, "a")}, {term(million-1, ""), term(1-million, "a")},
		{term(1, times("a", 30))}, {term(1, times("B", 30))}, {term(2, times("b", 31))}, {term(1, times("a", 60))}, {term(1, times("A", 60))},
		{term(1, ""), term(-2, times("A", 59)), term(1, times("ab", 30))}, {term(1, "C"), term(-1, around(29, "a"))},
		binomial("a", 1, 14), binomial("a", -1, 14), binomial("ab", 1, 15),
		grid(4, 5), grid(18, 1), grid(1, 18), grid(12, 25), grid(20, 15), grid(15, 20), withCoefs(grid(12, 25), -1), withCoefs(grid(25, 12), million),
	}
}

func allSums() []terms {
	return append(smallSums(), greatSums()...)
}

// noTermLists returns lists in which a word is none, a coefficient is out of range, or which have too many terms.
func noTermLists() []terms {
	lists := []terms{
		{term(million+1, "")}, {term(-million-1, "")}, {term(1, ""), term(million+1, "a")}, {term(-million-1, ""), term(1, "a")},
		{term(math.MaxInt, "")}, {term(math.MinInt, "")}, {term(1<<32, "a")}, {term(1<<32+1, "a")}, {term(-1<<32-1, "a")},
		{term(1, ""), term(math.MinInt, "a"), term(1, "b")},
		grid(7, 43), make(terms, 301), slices.Repeat(one(), 301), make(terms, 1000000),
		append(grid(12, 25), term(1, "c")), append(grid(12, 25), term(0, "c")), append(grid(12, 25), grid(12, 25)...),
	}
	for _, s := range noWords() {
		lists = append(lists, terms{term(1, s)})
	}
	for _, s := range []string{"aA", "abBa", "e", " ", "1", "a ", "\x00", "ä", times("a", 61), times("a", 59) + "A"} {
		lists = append(lists, terms{term(0, s)}, terms{term(1, ""), term(1, s)}, terms{term(1, s), term(1, times("d", 60))}, terms{term(1, s), term(-1, s)})
	}
	return lists
}

// noSums returns lists of terms that are no sums.
func noSums() []terms {
	return append(noTermLists(),
		terms{term(0, "")}, terms{term(0, "a")}, terms{term(1, ""), term(0, "a")}, terms{term(0, ""), term(1, "a")}, terms{term(1, ""), term(0, "a"), term(1, "b")},
		terms{term(1, "a"), term(1, "")}, terms{term(1, "a"), term(1, "A")}, terms{term(1, "b"), term(1, "a")}, terms{term(1, "a"), term(1, "B")}, terms{term(1, "aa"), term(1, "b")},
		terms{term(1, ""), term(1, "b"), term(1, "a")}, terms{term(1, "b"), term(1, "aa"), term(1, "aB")},
		terms{term(1, ""), term(1, "")}, terms{term(1, "a"), term(1, "a")}, terms{term(1, "a"), term(-1, "a")}, terms{term(1, ""), term(1, "ab"), term(2, "ab")},
		reversed(grid(12, 25)), make(terms, 300), slices.Repeat(one(), 300), slices.Repeat(one(), 2),
		slices.Concat(grid(12, 25)[1:], one()),
	)
}

func wantSum(t *testing.T, call string, got terms, ok bool, want terms) {
	t.Helper()
	if !ok || !slices.Equal(got, want) {
		t.Errorf("%s returned %s, %v, not %s", call, brief(got), ok, brief(want))
	}
}

func wantNoSum(t *testing.T, call string, got terms, ok bool) {
	t.Helper()
	if ok || len(got) != 0 {
		t.Errorf("%s returned %s, %v: it must fail", call, brief(got), ok)
	}
}

// wantGathered wants the sum of terms if it is told, and otherwise a failure.
func wantGathered(t *testing.T, call string, got terms, ok bool, list terms) {
	t.Helper()
	if want, told := sumSlowly(list); told {
		wantSum(t, call, got, ok, want)
	} else {
		wantNoSum(t, call, got, ok)
	}
}

// wantOfShortLists wants a function and a slow one to hold for the same lists of at most 3 of some terms.
func wantOfShortLists(t *testing.T, call string, pool terms, in, slowly func(list terms) bool) {
	t.Helper()
	lists := []terms{{}}
	for range 3 {
		for _, list := range lists {
			for _, x := range pool {
				lists = append(lists, append(slices.Clone(list), x))
			}
		}
	}
	held := 0
	for _, list := range lists {
		want := slowly(list)
		if got := in(list); got != want {
			t.Errorf("%s of %s is %v", call, brief(list), got)
		}
		if want {
			held++
		}
	}
	if held < 100 {
		t.Errorf("%s holds for %d lists only", call, held)
	}
}

// wantOwnMemory calls f with sums that have room behind them, and wants these and that to be left when the result is changed and grows.
func wantOwnMemory(t *testing.T, call string, f func(a, b terms) terms) {
	t.Helper()
	wantOwnMemoryWith(t, call, append(smallSums(), terms{term(million, "d")}, grid(12, 1)), f)
}

// wantOwnMemoryWith does so with lists of terms that it is given.
func wantOwnMemoryWith(t *testing.T, call string, sums []terms, f func(a, b terms) terms) {
	t.Helper()
	room := func(list terms) (terms, terms) {
		whole := append(slices.Clone(list), term(11, "x"), term(12, "y"))
		return whole[:len(list)], whole
	}
	for _, x := range sums {
		for _, y := range sums {
			a, wholeA := room(x)
			b, wholeB := room(y)
			keptA, keptB := slices.Clone(wholeA), slices.Clone(wholeB)
			first, second := f(a, b), f(a, b)
			kept := slices.Clone(second)
			clear(first[:cap(first)])
			_ = append(first, term(13, "z"))
			if !slices.Equal(wholeA, keptA) || !slices.Equal(wholeB, keptB) {
				t.Fatalf("%s of %v and %v changes them, or its result shares memory with them", call, x, y)
			}
			if !slices.Equal(second, kept) {
				t.Fatalf("results of %s share memory", call)
			}
		}
	}
}

func sumPlain(t *testing.T, list terms) int {
	t.Helper()
	got, ok := impl.SumPlain(list)
	if !ok {
		t.Errorf("SumPlain of %s failed", brief(list))
	}
	return got
}

// wantSumsOnly calls f with lists that are no sums, and wants it to fail.
func wantSumsOnly(t *testing.T, call string, f func(list terms) (terms, bool)) {
	t.Helper()
	for _, list := range noSums() {
		got, ok := f(list)
		wantNoSum(t, call+" of "+brief(list), got, ok)
	}
}
