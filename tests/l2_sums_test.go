package tests

import (
	"fmt"
	"slices"
	"testing"

	"loop.example/foxcalculus/impl"
)

// Promise 11: If SumIn holds, SumOf of it is it, and SumTimes of it and 1 too.

func TestPromise11Sums(t *testing.T) {
	for _, sum := range allSums() {
		if !impl.SumIn(sum) {
			t.Errorf("SumIn of %s does not hold", brief(sum))
		}
		got, ok := impl.SumOf(sum)
		wantSum(t, "SumOf of "+brief(sum), got, ok, sum)
		got, ok = impl.SumTimes(sum, one())
		wantSum(t, brief(sum)+" times 1", got, ok, sum)
		got, ok = impl.SumTimes(one(), sum)
		wantSum(t, "1 times "+brief(sum), got, ok, sum)
	}
}

func TestPromise11ShortLists(t *testing.T) {
	pool := terms{
		term(1, ""), term(-2, "A"), term(1, "B"), term(million, "a"), term(0, "a"), term(-million, "b"), term(1, "d"),
		term(1, "aB"), term(3, "ab"), term(1, "ba"), term(1, "aA"), term(million+1, "b"), term(1, times("a", 60)), term(1, times("a", 61)),
	}
	wantOfShortLists(t, "SumIn", pool, impl.SumIn, isSumSlowly)
}

func TestPromise11Order(t *testing.T) {
	ordered := terms{}
	for _, word := range []string{"", "A", "B", "C", "D", "a", "b", "c", "d", "AA", "AB", "AD", "Ab", "BA", "Da", "aB", "aa", "ab", "ad", "dd", "AAA", "aaa", times("B", 60), times("a", 60)} {
		ordered = append(ordered, term(1, word))
	}
	for i := range ordered {
		for k := range ordered {
			if got := impl.SumIn(terms{ordered[i], ordered[k]}); got != (i < k) {
				t.Errorf("SumIn of %q and %q is %v", ordered[i].Word, ordered[k].Word, got)
			}
		}
	}
	if !impl.SumIn(ordered) || impl.SumIn(reversed(ordered)) {
		t.Error("SumIn does not tell ordered lists from reversed ones")
	}
}

func TestPromise11Limits(t *testing.T) {
	if !impl.SumIn(nil) || !impl.SumIn(terms{}) {
		t.Error("SumIn of the empty list does not hold")
	}
	for n := 1; n <= 25; n++ {
		for m := 1; m <= 25; m++ {
			if got := impl.SumIn(grid(n, m)); got != (n*m <= 300) {
				t.Errorf("SumIn of %d terms is %v", n*m, got)
			}
		}
	}
	if impl.SumIn(grid(7, 43)) {
		t.Error("SumIn of 301 terms holds")
	}
	for _, coef := range []int{million, million - 1, -million, 1 - million, 1, -1} {
		if !impl.SumIn(terms{term(coef, "")}) || !impl.SumIn(terms{term(1, ""), term(coef, "a")}) {
			t.Errorf("SumIn with the coefficient %d does not hold", coef)
		}
	}
}

func TestPromise11Invalid(t *testing.T) {
	for _, list := range noSums() {
		if impl.SumIn(list) {
			t.Errorf("SumIn of %s holds", brief(list))
		}
	}
	wantSumsOnly(t, "SumTimes by 1", func(list terms) (terms, bool) { return impl.SumTimes(list, one()) })
}

// Promise 12: If SumOf succeeds, it is a sum, and in the opposite order it is the same.

func TestPromise12Lists(t *testing.T) {
	lists := allSums()
	for _, sum := range smallSums() {
		for _, other := range smallSums() {
			lists = append(lists, slices.Concat(sum, other), slices.Concat(other, terms{term(0, "c"), term(0, "aa"), term(5, "cc")}, reversed(sum)))
		}
		lists = append(lists, slices.Concat(sum, withCoefs(sum, -1)), slices.Concat(sum, sum, withCoefs(sum, -2)), withCoefs(sum, 0))
	}
	for _, list := range lists {
		got, ok := impl.SumOf(list)
		wantGathered(t, "SumOf of "+brief(list), got, ok, list)
		if ok != isSumSlowly(got) || !ok {
			t.Errorf("SumOf of %s returned %s, %v", brief(list), brief(got), ok)
		}
		opposite, ok := impl.SumOf(reversed(list))
		wantSum(t, "SumOf of the reversed "+brief(list), opposite, ok, got)
	}
}

func TestPromise12Examples(t *testing.T) {
	for _, sum := range []struct {
		list, want terms
	}{
		{nil, nil}, {terms{}, nil}, {terms{term(0, "")}, nil}, {terms{term(0, "a"), term(0, "b"), term(0, "a")}, nil},
		{terms{term(1, "a"), term(-1, "a")}, nil}, {terms{term(1, "a"), term(2, "b"), term(-3, "a"), term(-2, "b"), term(2, "a")}, nil},
		{terms{term(1, "a"), term(1, "")}, terms{term(1, ""), term(1, "a")}},
		{terms{term(1, "a"), term(1, "A"), term(1, "aa"), term(1, "b")}, terms{term(1, "A"), term(1, "a"), term(1, "b"), term(1, "aa")}},
		{terms{term(1, "a"), term(1, "b"), term(1, "a"), term(1, "a")}, terms{term(3, "a"), term(1, "b")}},
		{terms{term(4, "ab"), term(0, "ab"), term(0, "ba")}, terms{term(4, "ab")}},
		{terms{term(million, "a"), term(1, "a"), term(-1, "a")}, terms{term(million, "a")}},
		{terms{term(-million, "a"), term(-1, "a"), term(1, "a")}, terms{term(-million, "a")}},
		{terms{term(million, "a"), term(million, "a"), term(-million, "a"), term(-million, "a")}, nil},
		{terms{term(million, ""), term(-million, "a"), term(million, "b")}, terms{term(million, ""), term(-million, "a"), term(million, "b")}},
		{terms{term(million-1, "a"), term(1, "a")}, terms{term(million, "a")}}, {terms{term(1-million, "a"), term(-1, "a")}, terms{term(-million, "a")}},
		{terms{term(1, times("a", 60)), term(1, times("B", 60))}, terms{term(1, times("B", 60)), term(1, times("a", 60))}},
	} {
		got, ok := impl.SumOf(sum.list)
		wantSum(t, "SumOf of "+brief(sum.list), got, ok, sum.want)
	}
}

func TestPromise12Limits(t *testing.T) {
	sum := grid(12, 25)
	for _, list := range []terms{sum, reversed(sum), slices.Concat(sum[150:], sum[:150]), slices.Repeat(one(), 300), slices.Repeat(terms{term(million, "a"), term(-million, "a")}, 150), make(terms, 300)} {
		got, ok := impl.SumOf(list)
		wantGathered(t, "SumOf of "+brief(list), got, ok, list)
		if !ok {
			t.Errorf("SumOf of %s failed", brief(list))
		}
	}
	for _, list := range []terms{
		grid(7, 43), slices.Repeat(one(), 301), make(terms, 301), append(slices.Repeat(terms{term(1, "a"), term(-1, "a")}, 150), term(0, "")), append(sum, term(0, "")),
		{term(million, "a"), term(1, "a")}, {term(-million, "a"), term(-1, "a")}, {term(1, ""), term(500000, "b"), term(500001, "b")}, slices.Repeat(terms{term(million, "b")}, 300),
		{term(million+1, "a"), term(-1, "a")}, {term(-million-1, "a"), term(1, "a")}, {term(million+1, "a"), term(-million-1, "a")},
	} {
		got, ok := impl.SumOf(list)
		wantNoSum(t, "SumOf of "+brief(list), got, ok)
	}
}

func TestPromise12Invalid(t *testing.T) {
	for _, list := range noTermLists() {
		got, ok := impl.SumOf(list)
		wantNoSum(t, "SumOf of "+brief(list), got, ok)
	}
}

// Promise 13: If SumAdd succeeds, it is the same for both exchanged, and SumPlain of it is that of both together.

func TestPromise13Pairs(t *testing.T) {
	for _, a := range allSums() {
		for _, b := range allSums() {
			call := fmt.Sprintf("SumAdd of %s and %s", brief(a), brief(b))
			got, ok := impl.SumAdd(a, b)
			wantGathered(t, call, got, ok, slices.Concat(a, b))
			exchanged, also := impl.SumAdd(b, a)
			if ok != also || !slices.Equal(got, exchanged) {
				t.Errorf("%s is not the same exchanged", call)
			}
			if ok && sumPlain(t, got) != plainSlowly(a)+plainSlowly(b) {
				t.Errorf("%s has the coefficients %d", call, sumPlain(t, got))
			}
		}
	}
}

func TestPromise13Examples(t *testing.T) {
	sum := grid(12, 25)
	for _, add := range []struct {
		a, b, want terms
	}{
		{nil, nil, nil}, {nil, one(), one()}, {one(), terms{}, one()}, {one(), terms{term(-1, "")}, nil}, {one(), one(), terms{term(2, "")}},
		{terms{term(1, ""), term(1, "a")}, terms{term(1, ""), term(-1, "a")}, terms{term(2, "")}},
		{terms{term(1, "a"), term(1, "c")}, terms{term(1, ""), term(1, "b")}, terms{term(1, ""), term(1, "a"), term(1, "b"), term(1, "c")}},
		{terms{term(million, "a")}, terms{term(-1, "a")}, terms{term(million-1, "a")}}, {terms{term(million, "a")}, terms{term(-million, "a")}, nil},
		{terms{term(million-1, "a")}, terms{term(1, "a")}, terms{term(million, "a")}}, {terms{term(1-million, "a")}, terms{term(-1, "a")}, terms{term(-million, "a")}},
		{sum, nil, sum}, {nil, sum, sum}, {sum, sum, withCoefs(sum, 2)}, {sum, withCoefs(sum, -1), nil},
		{sum[:150], sum[150:], sum}, {sum[:299], sum[299:], sum}, {sum, sum[7:8], slices.Concat(sum[:7], withCoefs(sum[7:8], 2), sum[8:])},
		{sum, slices.Concat(terms{term(-1, "")}, terms{term(1, "c")}), slices.Concat(terms{sum[1], sum[2], term(1, "c")}, sum[3:])},
	} {
		got, ok := impl.SumAdd(add.a, add.b)
		wantSum(t, fmt.Sprintf("SumAdd of %s and %s", brief(add.a), brief(add.b)), got, ok, add.want)
	}
}

func TestPromise13Limits(t *testing.T) {
	sum := grid(12, 25)
	for _, add := range [][2]terms{
		{sum, {term(1, "c")}}, {{term(1, times("d", 60))}, sum}, {sum, withWords(sum, func(s string) string { return s + "c" })}, {sum[:299], {term(1, "c"), term(1, "d")}},
		{{term(million, "a")}, {term(1, "a")}}, {{term(-million, "a")}, {term(-1, "a")}}, {{term(500000, "")}, {term(500001, "")}}, {{term(1, ""), term(million, "b")}, {term(million, "b")}},
	} {
		for _, pair := range [][2]terms{add, {add[1], add[0]}} {
			got, ok := impl.SumAdd(pair[0], pair[1])
			wantNoSum(t, fmt.Sprintf("SumAdd of %s and %s", brief(pair[0]), brief(pair[1])), got, ok)
		}
	}
}

func TestPromise13Invalid(t *testing.T) {
	for _, sum := range []terms{{}, one(), {term(-1, "a")}} {
		wantSumsOnly(t, "SumAdd of "+brief(sum)+" and that", func(list terms) (terms, bool) { return impl.SumAdd(sum, list) })
		wantSumsOnly(t, "SumAdd with "+brief(sum)+" behind", func(list terms) (terms, bool) { return impl.SumAdd(list, sum) })
	}
	wantSumsOnly(t, "SumAdd of twice that", func(list terms) (terms, bool) { return impl.SumAdd(list, list) })
}

// Promise 14: If SumTimes succeeds, SumPlain of it is the product of both, and that of the first one and twice the second one is twice it, if told.

func TestPromise14Pairs(t *testing.T) {
	told := 0
	for _, a := range allSums() {
		for _, b := range allSums() {
			if len(a)*len(b) > 10000 {
				continue
			}
			call := fmt.Sprintf("SumTimes of %s and %s", brief(a), brief(b))
			got, ok := impl.SumTimes(a, b)
			wantGathered(t, call, got, ok, productSlowly(a, b))
			if !ok {
				continue
			}
			if sumPlain(t, got) != plainSlowly(a)*plainSlowly(b) {
				t.Errorf("%s has the coefficients %d", call, sumPlain(t, got))
			}
			twice, ok := impl.SumAdd(b, b)
			double, also := impl.SumTimes(a, twice)
			if ok && also {
				told++
				wantSum(t, call+" twice", double, also, withCoefs(got, 2))
			}
		}
	}
	if told < 500 {
		t.Errorf("only %d products were told", told)
	}
}

func TestPromise14Examples(t *testing.T) {
	plus, minus := terms{term(1, ""), term(1, "a")}, terms{term(1, ""), term(-1, "a")}
	for _, product := range []struct {
		a, b, want terms
	}{
		{nil, nil, nil}, {nil, one(), nil}, {plus, terms{}, nil}, {terms{term(-1, "")}, terms{term(-1, "")}, one()},
		{plus, minus, terms{term(1, ""), term(-1, "aa")}}, {plus, plus, terms{term(1, ""), term(2, "a"), term(1, "aa")}},
		{terms{term(2, "a")}, terms{term(3, "A")}, terms{term(6, "")}}, {terms{term(2, "a")}, terms{term(3, "b")}, terms{term(6, "ab")}}, {terms{term(3, "b")}, terms{term(2, "a")}, terms{term(6, "ba")}},
		{terms{term(1, "A"), term(1, "a")}, terms{term(1, "A"), term(1, "a")}, terms{term(2, ""), term(1, "AA"), term(1, "aa")}},
		{terms{term(1, ""), term(1, "a"), term(1, "aa")}, minus, terms{term(1, ""), term(-1, "aaa")}},
		{terms{term(1, "a"), term(1, "b")}, terms{term(1, "A"), term(-1, "B")}, terms{term(-1, "aB"), term(1, "bA")}},
	} {
		got, ok := impl.SumTimes(product.a, product.b)
		wantSum(t, fmt.Sprintf("SumTimes of %s and %s", brief(product.a), brief(product.b)), got, ok, product.want)
	}
}

func TestPromise14Limits(t *testing.T) {
	long := func(sign string, n int) terms { return terms{term(1, times(sign, n))} }
	for _, product := range []struct {
		a, b, want terms
	}{
		{long("a", 30), long("b", 30), terms{term(1, times("a", 30)+times("b", 30))}}, {long("a", 60), long("A", 60), one()}, {long("a", 60), long("A", 59), long("a", 1)}, {long("a", 60), nil, nil},
		{grid(12, 1), grid(1, 25), grid(12, 25)}, {grid(1, 25), grid(1, 12), gatherSlowly(productSlowly(grid(1, 25), grid(1, 12)))},
		{grid(1, 31), grid(1, 30), gatherSlowly(productSlowly(grid(1, 31), grid(1, 30)))},
		{terms{term(1000, "a")}, terms{term(-1000, "b")}, terms{term(-million, "ab")}}, {terms{term(million, "")}, terms{term(-1, "b")}, terms{term(-million, "b")}},
		{binomial("a", 1, 14), binomial("a", -1, 14), binomial("aa", -1, 14)}, // pairs have coefficients beyond a million
		{binomial("a", 1, 10), binomial("a", 1, 10), binomial("a", 1, 20)},
	} {
		got, ok := impl.SumTimes(product.a, product.b)
		wantSum(t, fmt.Sprintf("SumTimes of %s and %s", brief(product.a), brief(product.b)), got, ok, product.want)
	}
	for _, product := range [][2]terms{
		{long("a", 30), long("b", 31)}, {long("a", 60), long("a", 1)}, {long("b", 1), long("a", 60)}, {slices.Concat(one(), long("a", 60)), terms{term(1, ""), term(1, "b")}},
		{grid(7, 1), grid(1, 43)}, {grid(12, 25), terms{term(1, ""), term(1, "c")}}, {grid(12, 25), grid(12, 25)},
		{terms{term(million, "a")}, terms{term(2, "b")}}, {terms{term(1001, "a")}, terms{term(-1000, "b")}}, {terms{term(million, "")}, terms{term(million, "")}}, {terms{term(-million, "")}, terms{term(million, "")}},
		{binomial("a", 1, 12), binomial("a", 1, 12)}, {terms{term(1, ""), term(1, "a")}, terms{term(500000, ""), term(500001, "a")}},
	} {
		got, ok := impl.SumTimes(product[0], product[1])
		wantNoSum(t, fmt.Sprintf("SumTimes of %s and %s", brief(product[0]), brief(product[1])), got, ok)
	}
}

func TestPromise14Invalid(t *testing.T) {
	for _, sum := range []terms{{}, one(), {term(-1, "a")}} {
		wantSumsOnly(t, "SumTimes of "+brief(sum)+" and that", func(list terms) (terms, bool) { return impl.SumTimes(sum, list) })
		wantSumsOnly(t, "SumTimes with "+brief(sum)+" behind", func(list terms) (terms, bool) { return impl.SumTimes(list, sum) })
	}
	wantSumsOnly(t, "SumTimes of that by itself", func(list terms) (terms, bool) { return impl.SumTimes(list, list) })
}

// Promise 15: If SumTurned succeeds, it leads back, and that of the square of the sum, if told, is its square.

func TestPromise15Sums(t *testing.T) {
	for _, sum := range allSums() {
		got, ok := impl.SumTurned(sum)
		wantSum(t, "SumTurned of "+brief(sum), got, ok, gatherSlowly(withWords(sum, turnSlowly)))
		back, ok := impl.SumTurned(got)
		wantSum(t, "SumTurned of "+brief(got), back, ok, sum)
	}
}

func TestPromise15Squares(t *testing.T) {
	told := 0
	for _, sum := range allSums() {
		square, ok := impl.SumTimes(sum, sum)
		turned, also := impl.SumTurned(sum)
		other, fine := impl.SumTimes(turned, turned)
		if ok != fine || !also {
			t.Errorf("the squares of %s and of it turned are not told both", brief(sum))
		}
		if !ok {
			continue
		}
		told++
		got, ok := impl.SumTurned(square)
		wantSum(t, "SumTurned of the square of "+brief(sum), got, ok, other)
	}
	if told < 20 {
		t.Errorf("only %d squares were told", told)
	}
}

func TestPromise15Examples(t *testing.T) {
	for _, turned := range []struct {
		sum, want terms
	}{
		{nil, nil}, {one(), one()}, {terms{term(-5, "aB")}, terms{term(-5, "bA")}},
		{terms{term(1, "A"), term(2, "B"), term(3, "a"), term(4, "b")}, terms{term(3, "A"), term(4, "B"), term(1, "a"), term(2, "b")}},
		{terms{term(1, "ab"), term(2, "ba")}, terms{term(2, "AB"), term(1, "BA")}},
		{terms{term(million, "a"), term(-million, times("ab", 30))}, terms{term(million, "A"), term(-million, times("BA", 30))}},
	} {
		got, ok := impl.SumTurned(turned.sum)
		wantSum(t, "SumTurned of "+brief(turned.sum), got, ok, turned.want)
	}
}

func TestPromise15Invalid(t *testing.T) {
	wantSumsOnly(t, "SumTurned", impl.SumTurned)
}

// Promise 16: If SumPlain succeeds, it is that of the turned sum.

func TestPromise16Sums(t *testing.T) {
	for _, sum := range allSums() {
		got := sumPlain(t, sum)
		turned, ok := impl.SumTurned(sum)
		if got != plainSlowly(sum) || !ok || sumPlain(t, turned) != got {
			t.Errorf("SumPlain of %s returned %d", brief(sum), got)
		}
	}
}

func TestPromise16Examples(t *testing.T) {
	for _, plain := range []struct {
		sum  terms
		want int
	}{
		{nil, 0}, {terms{}, 0}, {one(), 1}, {terms{term(-7, "abAB")}, -7}, {terms{term(1, ""), term(1, "a")}, 2}, {terms{term(1, ""), term(-1, "a")}, 0},
		{terms{term(million, "A"), term(-million, "a")}, 0}, {terms{term(million, "A"), term(1, "a")}, million + 1},
		{grid(12, 25), 300}, {withCoefs(grid(12, 25), million), 300 * million}, {withCoefs(grid(12, 25), -million), -300 * million},
	} {
		if got := sumPlain(t, plain.sum); got != plain.want {
			t.Errorf("SumPlain of %s returned %d, not %d", brief(plain.sum), got, plain.want)
		}
	}
}

func TestPromise16Invalid(t *testing.T) {
	for _, list := range noSums() {
		if got, ok := impl.SumPlain(list); ok || got != 0 {
			t.Errorf("SumPlain of %s returned %d, %v", brief(list), got, ok)
		}
	}
}

// Promise 17: If SumPut succeeds, SumPlain of it is that of the sum, and with the generators themselves put the sum is left.

func TestPromise17Sums(t *testing.T) {
	for _, list := range lists() {
		kept := slices.Clone(list)
		for _, sum := range allSums() {
			call := fmt.Sprintf("SumPut of %s with %q", brief(sum), list)
			got, ok := impl.SumPut(sum, list)
			wantGathered(t, call, got, ok, withWords(sum, func(s string) string { return putSlowly(s, list) }))
			if ok && sumPlain(t, got) != plainSlowly(sum) {
				t.Errorf("%s has the coefficients %d", call, sumPlain(t, got))
			}
		}
		if !slices.Equal(list, kept) {
			t.Errorf("SumPut changed its list to %q", list)
		}
	}
	for _, sum := range allSums() {
		got, ok := impl.SumPut(sum, generators)
		wantSum(t, "SumPut of the generators into "+brief(sum), got, ok, sum)
	}
}

func TestPromise17Examples(t *testing.T) {
	a30, a31 := times("a", 30), times("a", 31)
	for _, put := range []struct {
		sum  terms
		list []string
		want terms
	}{
		{nil, generators, nil}, {one(), []string{"b", "b", "b", "b"}, one()}, {terms{term(1, "a"), term(-1, "b")}, []string{"c", "c", "", ""}, nil},
		{terms{term(1, ""), term(2, "a"), term(3, "b")}, []string{"", "", "", ""}, terms{term(6, "")}},
		{terms{term(1, "A"), term(2, "a"), term(3, "b")}, []string{"ab", "BA", "", ""}, terms{term(4, "BA"), term(2, "ab")}},
		{terms{term(1, "a"), term(2, "b")}, []string{"b", "a", "", ""}, terms{term(2, "a"), term(1, "b")}},
		{terms{term(1, "ab"), term(-1, "ba")}, []string{a30, a30, "", ""}, nil}, {terms{term(1, "ab")}, []string{a30, times("b", 30), "", ""}, terms{term(1, a30+times("b", 30))}},
		{terms{term(1, "aB")}, []string{times("b", 60), times("b", 60), "", ""}, one()}, {terms{term(1, "a")}, []string{a31, times("b", 60), "", ""}, terms{term(1, a31)}},
		{terms{term(million, "a"), term(-million, "b")}, []string{"", "", "", ""}, nil}, {terms{term(million-1, "a"), term(1, "b")}, []string{"d", "d", "", ""}, terms{term(million, "d")}},
		{terms{term(million, ""), term(million, "a"), term(-million, "b")}, []string{"", "", "", ""}, terms{term(million, "")}},
		{grid(12, 25), []string{"", "", "", ""}, terms{term(300, "")}}, {withCoefs(grid(12, 25), 3333), []string{"", "", "", ""}, terms{term(999900, "")}},
	} {
		got, ok := impl.SumPut(put.sum, put.list)
		wantSum(t, fmt.Sprintf("SumPut of %s with %q", brief(put.sum), put.list), got, ok, put.want)
	}
}

func TestPromise17Limits(t *testing.T) {
	a31 := times("a", 31)
	for _, put := range []struct {
		sum  terms
		list []string
	}{
		{terms{term(1, "ab"), term(-1, "ba")}, []string{a31, a31, "", ""}}, {terms{term(1, "aa")}, []string{a31, "", "", ""}}, {terms{term(1, ""), term(5, "Ab")}, []string{a31, times("b", 30), "", ""}},
		{terms{term(million, "a"), term(1, "b")}, []string{"", "", "", ""}}, {terms{term(-million, "a"), term(-1, "b")}, []string{"c", "c", "", ""}},
		{withCoefs(grid(12, 25), 3334), []string{"", "", "", ""}}, {terms{term(1, times("a", 31))}, []string{"aa", "", "", ""}},
	} {
		got, ok := impl.SumPut(put.sum, put.list)
		wantNoSum(t, fmt.Sprintf("SumPut of %s with %q", brief(put.sum), put.list), got, ok)
	}
	for _, list := range [][]string{nil, {}, {"a"}, {"a", "b", "c"}, {"a", "b", "c", "d", ""}, slices.Repeat(generators, 2), make([]string, 1000000)} {
		for _, sum := range []terms{nil, one(), {term(1, "a")}} {
			got, ok := impl.SumPut(sum, list)
			wantNoSum(t, fmt.Sprintf("SumPut of %s with %d words", brief(sum), len(list)), got, ok)
		}
	}
}

func TestPromise17Invalid(t *testing.T) {
	for _, list := range [][]string{generators, {"", "", "", ""}} {
		wantSumsOnly(t, fmt.Sprintf("SumPut of %q", list), func(sum terms) (terms, bool) { return impl.SumPut(sum, list) })
	}
	for _, s := range noWords() {
		for g := range generators {
			list := slices.Clone(generators)
			list[g] = s
			for _, sum := range []terms{nil, one(), {term(1, "a"), term(1, "b")}, {term(1, generators[g])}} {
				got, ok := impl.SumPut(sum, list)
				wantNoSum(t, fmt.Sprintf("SumPut of %s with %.70q", brief(sum), list), got, ok)
			}
		}
	}
}

// The general rules: results have memory of their own, and arguments are left.

func TestSumsMemory(t *testing.T) {
	must := func(sum terms, _ bool) terms { return sum }
	wantOwnMemory(t, "SumOf", func(a, b terms) terms { return must(impl.SumOf(a)) })
	wantOwnMemory(t, "SumAdd", func(a, b terms) terms { return must(impl.SumAdd(a, b)) })
	wantOwnMemory(t, "SumTimes", func(a, b terms) terms { return must(impl.SumTimes(a, b)) })
	wantOwnMemory(t, "SumTurned", func(a, b terms) terms { return must(impl.SumTurned(a)) })
	wantOwnMemory(t, "SumPut", func(a, b terms) terms { return must(impl.SumPut(a, generators)) })
	unordered := terms{term(1, "b"), term(0, ""), term(1, "a"), term(1, "b")}
	kept := slices.Clone(unordered)
	got, ok := impl.SumOf(unordered)
	wantSum(t, "SumOf", got, ok, terms{term(1, "a"), term(2, "b")})
	if !slices.Equal(unordered, kept) {
		t.Errorf("SumOf changed its list to %v", unordered)
	}
}
