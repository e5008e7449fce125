package tests

import (
	"fmt"
	"maps"
	"math"
	"math/big"
	"slices"
	"strings"
	"testing"

	"loop.example/foxcalculus/impl"
)

const billion = 1000000000

type poly = impl.Poly

// powersOfT are coefficients of any size, by the powers of t to which they belong.
type powersOfT map[int]*big.Int

func polyWith(low int, coefs ...int) poly {
	return poly{Low: low, Coefs: coefs}
}

// spread returns a polynomial with n coefficients that are all the same.
func spread(low, n, coef int) poly {
	return polyWith(low, slices.Repeat([]int{coef}, n)...)
}

// ends returns a polynomial with n coefficients that are 0 but for the first and the last one.
func ends(low, n, first, last int) poly {
	coefs := make([]int, n)
	coefs[0], coefs[n-1] = first, last
	return polyWith(low, coefs...)
}

// shifted returns the polynomial times t to some power.
func shifted(a poly, n int) poly {
	return polyWith(a.Low+n, a.Coefs...)
}

// timesNumber returns the polynomial with its coefficients times a number.
func timesNumber(a poly, n int) poly {
	coefs := slices.Clone(a.Coefs)
	for i := range coefs {
		coefs[i] *= n
	}
	return polyWith(a.Low, coefs...)
}

func samePoly(a, b poly) bool {
	return a.Low == b.Low && slices.Equal(a.Coefs, b.Coefs)
}

// isPolySlowly reports whether a polynomial is as told.
func isPolySlowly(a poly) bool {
	n := len(a.Coefs)
	if n == 0 {
		return a.Low == 0
	}
	for _, coef := range a.Coefs {
		if coef < -1000000000 || coef > 1000000000 {
			return false
		}
	}
	return -300 <= a.Low && a.Low <= 300 && n <= 200 && a.Coefs[0] != 0 && a.Coefs[n-1] != 0
}

func (p powersOfT) add(power int, n *big.Int) {
	if p[power] == nil {
		p[power] = new(big.Int)
	}
	p[power].Add(p[power], n)
}

// told returns the powers as a polynomial, and whether they are one.
func (p powersOfT) told() (poly, bool) {
	maps.DeleteFunc(p, func(_ int, n *big.Int) bool { return n.Sign() == 0 })
	if len(p) == 0 {
		return poly{}, true
	}
	found := slices.Sorted(maps.Keys(p))
	low, high := found[0], found[len(found)-1]
	a := polyWith(low, make([]int, high-low+1)...)
	for power, n := range p {
		if !n.IsInt64() {
			return poly{}, false
		}
		a.Coefs[power-low] = int(n.Int64())
	}
	return a, isPolySlowly(a)
}

func powersOf(a poly) powersOfT {
	p := powersOfT{}
	for i, n := range a.Coefs {
		p.add(a.Low+i, big.NewInt(int64(n)))
	}
	return p
}

func polySumSlowly(a, b poly) powersOfT {
	p := powersOf(a)
	for power, n := range powersOf(b) {
		p.add(power, n)
	}
	return p
}

func (p powersOfT) times(a poly) powersOfT {
	product, second := powersOfT{}, powersOf(a)
	for x, n := range p {
		for y, m := range second {
			product.add(x+y, new(big.Int).Mul(n, m))
		}
	}
	return product
}

func polyProductSlowly(a, b poly) powersOfT {
	return powersOf(a).times(b)
}

func polyTurnedSlowly(a poly) powersOfT {
	p := powersOfT{}
	for power, n := range powersOf(a) {
		p.add(-power, n)
	}
	return p
}

// productOf returns the product of polynomials, which is one.
func productOf(list ...poly) poly {
	powers := powersOf(polyWith(0, 1))
	for _, a := range list {
		powers = powers.times(a)
	}
	product, told := powers.told()
	if !told {
		panic("a product of polynomials that is none")
	}
	return product
}

// often returns a polynomial so many times.
func often(a poly, n int) []poly {
	return slices.Repeat([]poly{a}, n)
}

func powerOf(a poly, n int) poly {
	return productOf(often(a, n)...)
}

// quotientSlowly returns the coefficients of a series whose product with the second polynomial begins as the first one, and whether they are whole numbers.
func quotientSlowly(a, b poly) ([]*big.Int, bool) {
	var quotient []*big.Int
	first := big.NewInt(int64(b.Coefs[0]))
	for i := range len(a.Coefs) - len(b.Coefs) + 1 {
		n := big.NewInt(int64(a.Coefs[i]))
		for k := range quotient {
			if i-k < len(b.Coefs) {
				n.Sub(n, new(big.Int).Mul(quotient[k], big.NewInt(int64(b.Coefs[i-k]))))
			}
		}
		rest := new(big.Int)
		n.QuoRem(n, first, rest)
		if rest.Sign() != 0 {
			return nil, false
		}
		quotient = append(quotient, n)
	}
	return quotient, true
}

// greatestLeft returns the greatest size of a coefficient of what is left of a polynomial after each coefficient of the quotient.
func greatestLeft(a, b poly, quotient []*big.Int) *big.Int {
	left, greatest := powersOf(polyWith(0, a.Coefs...)), new(big.Int)
	for i, n := range quotient {
		for k, m := range b.Coefs {
			left.add(i+k, new(big.Int).Mul(n, big.NewInt(int64(-m))))
			if left[i+k].CmpAbs(greatest) > 0 {
				greatest.Abs(left[i+k])
			}
		}
	}
	return greatest
}

// overSlowly returns the quotient of two polynomials, the second one not 0, and whether it is told.
func overSlowly(a, b poly) (poly, bool) {
	quotient, whole := quotientSlowly(a, b)
	if !whole || greatestLeft(a, b, quotient).Cmp(big.NewInt(4000000000000000000)) > 0 {
		return poly{}, false
	}
	p := powersOfT{}
	for i, n := range quotient {
		p.add(a.Low-b.Low+i, n)
	}
	result, told := p.told()
	if !told {
		return poly{}, false
	}
	again, told := polyProductSlowly(result, b).told()
	return result, told && samePoly(again, a)
}

// alikeSlowly reports whether the coefficients of two polynomials are the same or opposite.
func alikeSlowly(a, b poly) bool {
	return slices.Equal(a.Coefs, b.Coefs) || slices.Equal(a.Coefs, timesNumber(b, -1).Coefs)
}

func polyOneSlowly(a poly) int {
	value := 0
	for _, n := range a.Coefs {
		value += n
	}
	return value
}

func polyOfSumSlowly(sum terms) powersOfT {
	p := powersOfT{}
	for _, x := range sum {
		power := 0
		for _, n := range sumsSlowly(x.Word) {
			power += n
		}
		p.add(power, big.NewInt(int64(x.Coef)))
	}
	return p
}

// shortLists returns all lists of at most n of some numbers.
func shortLists(n int, numbers ...int) [][]int {
	lists, last := [][]int{{}}, [][]int{{}}
	for range n {
		var next [][]int
		for _, list := range last {
			for _, x := range numbers {
				next = append(next, append(slices.Clone(list), x))
			}
		}
		lists = append(lists, next...)
		last = next
	}
	return lists
}

// shortPolys returns 0 and all polynomials of at most n of some numbers, from some powers on.
func shortPolys(n int, lows []int, numbers ...int) []poly {
	polys := []poly{{}}
	for _, list := range shortLists(n, numbers...) {
		for _, low := range lows {
			if a := polyWith(low, list...); len(list) > 0 && isPolySlowly(a) {
				polys = append(polys, a)
			}
		}
	}
	return polys
}

// smallPolys returns polynomials of a few coefficients, 0, units and negative powers among them.
func smallPolys() []poly {
	return append(shortPolys(3, []int{-2, 0}, -2, -1, 0, 1, 2),
		polyWith(5, 1), polyWith(-7, -1), polyWith(1, 1, -1), polyWith(-1, 1, -3, 1), polyWith(-1, -1, 3, -1), polyWith(0, 1, -1, 1, -1, 1), polyWith(-3, 3, 0, 0, 5), polyWith(-300, 1), polyWith(300, -1))
}

// deep returns two polynomials whose product is one, though more than a billion billions of it are left on the way of the division by the second one.
func deep() (poly, poly) {
	plus, minus, square, cube, sixth, fifth := polyWith(0, 1, 1), polyWith(0, 1, -1), polyWith(0, 1, 0, 1), polyWith(0, 1, 1, 1), polyWith(0, 1, -1, 1), polyWith(0, 1, 1, 1, 1, 1)
	quotient := productOf(slices.Concat(often(minus, 24), often(cube, 13), often(square, 9), often(fifth, 1), often(polyWith(0, 2), 1))...)
	divisor := productOf(slices.Concat(often(plus, 34), often(minus, 8), often(sixth, 25), often(square, 3), often(fifth, 5), often(polyWith(0, 4), 1))...)
	return quotient, divisor
}

// greatPolys returns polynomials that meet the limits.
func greatPolys() []poly {
	quotient, divisor := deep()
	return []poly{
		polyWith(0, billion), polyWith(0, -billion), polyWith(0, billion-1), polyWith(0, 1-billion), polyWith(0, billion, -billion), polyWith(-1, -billion, 0, billion), polyWith(0, 31622), polyWith(0, 31623), polyWith(0, 500000000), polyWith(0, 500000001), polyWith(0, 500000000, 500000000), polyWith(1, 500000001, -500000000),
		polyWith(299, 1, 1), polyWith(300, 1, -1), polyWith(-300, 1, 2), polyWith(-300, -1), polyWith(150, 1, 1), polyWith(-150, 1, 3), polyWith(151, -1), polyWith(-151, -1),
		spread(-100, 200, 1), spread(-300, 200, billion), spread(300, 200, -billion), spread(101, 200, -1), spread(102, 200, 1), spread(0, 199, 1), spread(0, 100, 1), spread(0, 101, 1), spread(-50, 101, -billion), spread(7, 50, 10000),
		ends(0, 200, 1, -1), ends(-300, 200, -billion, billion), ends(1, 199, 3, 7), ends(-99, 100, 1, 1), ends(-100, 101, 1, -1),
		powerOf(polyWith(0, 1, 1), 32), powerOf(polyWith(0, 1, -1), 32), quotient, divisor, shifted(divisor, -200),
	}
}

func allPolys() []poly {
	return append(smallPolys(), greatPolys()...)
}

// beyondInts returns numbers that are beyond a limit.
func beyondInts(limit int) []int {
	return []int{limit + 1, -limit - 1, limit + 2, 10 * limit, -10 * limit, 1 << 32, 1<<32 + 1, -1 << 32, 1<<62 + 1, math.MaxInt, math.MaxInt - 1, math.MinInt, math.MinInt + 1}
}

// noPolyParts returns powers with coefficients of which one is beyond a limit, or with too many coefficients.
func noPolyParts() []poly {
	polys := []poly{
		spread(0, 201, 1), spread(-300, 201, -1), spread(0, 201, 0), ends(0, 201, 1, 1), ends(0, 201, 0, 1), ends(-1, 201, 1, 0), spread(0, 202, 1), spread(0, 256, 1), spread(0, 257, 0), spread(0, 400, billion), spread(0, 1000000, 0), spread(0, 1000000, 1), ends(0, 1000000, 1, 0),
	}
	for _, low := range beyondInts(300) {
		polys = append(polys, polyWith(low), poly{Low: low, Coefs: []int{}}, polyWith(low, 1), polyWith(low, 1, -2, 1), polyWith(low, 0), polyWith(low, 0, 0, 0), polyWith(low, 0, 1), polyWith(low, 0, 1, 0), spread(low, 200, 1), spread(low, 201, 0))
	}
	for _, n := range beyondInts(billion) {
		polys = append(polys, polyWith(0, n), polyWith(-300, n), polyWith(0, 1, n), polyWith(0, n, 1), polyWith(3, 1, n, 1), polyWith(0, 0, n), polyWith(0, 0, n, 0), polyWith(0, 1, n, 0), polyWith(0, n, -n), ends(-1, 200, 1, n), ends(-1, 200, n, 0))
	}
	return polys
}

// noPolys returns polynomials that are not as told.
func noPolys() []poly {
	polys := append(noPolyParts(),
		polyWith(0, 0), polyWith(0, 0, 0), polyWith(0, 0, 1), polyWith(0, 1, 0), polyWith(0, 0, 1, 0), polyWith(-3, 0, 1, 1), polyWith(5, 1, 1, 0), polyWith(0, 1, 0, 0), polyWith(0, 0, 0, -billion), polyWith(300, 0, 1), polyWith(-300, 0, 1), polyWith(300, 0), polyWith(-300, 1, 0),
		spread(0, 200, 0), ends(0, 200, 0, 1), ends(0, 200, 1, 0), ends(-100, 100, 0, 0))
	for _, low := range []int{1, -1, 2, -2, 60, 299, 300, -300} {
		polys = append(polys, polyWith(low), poly{Low: low, Coefs: []int{}}, polyWith(low, 0))
	}
	return polys
}

// briefPoly tells a polynomial in not too many signs.
func briefPoly(a poly) string {
	n := len(a.Coefs)
	if n <= 8 {
		return fmt.Sprintf("%d:%d", a.Low, a.Coefs)
	}
	return fmt.Sprintf("%d:%s .. %d] (%d coefficients)", a.Low, strings.TrimSuffix(fmt.Sprint(a.Coefs[:4]), "]"), a.Coefs[n-1], n)
}

func callOfPolys(name string, list ...poly) string {
	var texts []string
	for _, a := range list {
		texts = append(texts, briefPoly(a))
	}
	return name + " of " + strings.Join(texts, " and ")
}

func wantPoly(t *testing.T, call string, got poly, ok bool, want poly) {
	t.Helper()
	if !ok || !samePoly(got, want) {
		t.Errorf("%s returned %s, %v, not %s", call, briefPoly(got), ok, briefPoly(want))
	}
}

func wantNoPoly(t *testing.T, call string, got poly, ok bool) {
	t.Helper()
	if ok || got.Low != 0 || len(got.Coefs) != 0 {
		t.Errorf("%s returned %s, %v: it must fail", call, briefPoly(got), ok)
	}
}

// wantPowers wants a polynomial if the powers are one, and otherwise a failure.
func wantPowers(t *testing.T, call string, got poly, ok bool, powers powersOfT) {
	t.Helper()
	if want, told := powers.told(); told {
		wantPoly(t, call, got, ok, want)
	} else {
		wantNoPoly(t, call, got, ok)
	}
}

// wantPolysOnly calls f with polynomials that are none, and wants it to fail.
func wantPolysOnly(t *testing.T, call string, f func(a poly) (poly, bool)) {
	t.Helper()
	for _, a := range noPolys() {
		got, ok := f(a)
		wantNoPoly(t, callOfPolys(call, a), got, ok)
	}
}

// wantBothPolys calls f with a polynomial that is none on one side and on both, and wants it to fail.
func wantBothPolys(t *testing.T, call string, f func(a, b poly) (poly, bool)) {
	t.Helper()
	for _, a := range []poly{{}, polyWith(0, 1), polyWith(-1, 2, -5, 2), spread(-300, 200, 1)} {
		wantPolysOnly(t, callOfPolys(call, a), func(b poly) (poly, bool) { return f(a, b) })
		wantPolysOnly(t, call+" with "+briefPoly(a)+" behind", func(b poly) (poly, bool) { return f(b, a) })
	}
	wantPolysOnly(t, call+" of twice that", func(a poly) (poly, bool) { return f(a, a) })
}

func polyOne(t *testing.T, a poly) int {
	t.Helper()
	got, ok := impl.PolyOne(a)
	if !ok {
		t.Errorf("%s failed", callOfPolys("PolyOne", a))
	}
	return got
}

// withRoom returns a polynomial with the same coefficients and room behind them, and all of this memory.
func withRoom(a poly) (poly, []int) {
	whole := append(slices.Clone(a.Coefs), 11, 12, 13)
	return polyWith(a.Low, whole[:len(a.Coefs)]...), whole
}

// wantOwnPolys calls f with polynomials that have room behind them, and wants these and that to be left when the result is changed and grows.
func wantOwnPolys(t *testing.T, call string, f func(a, b poly) poly) {
	t.Helper()
	for _, x := range []poly{{}, polyWith(0, 1), polyWith(-2, -1, 3), polyWith(1, 2, 0, -2), ends(0, 60, 1, 1)} {
		for _, y := range []poly{{}, polyWith(0, 1), polyWith(0, -1), polyWith(3, 1, -1)} {
			a, wholeA := withRoom(x)
			b, wholeB := withRoom(y)
			keptA, keptB := slices.Clone(wholeA), slices.Clone(wholeB)
			first, second := f(a, b), f(a, b)
			kept := slices.Clone(second.Coefs)
			clear(first.Coefs[:cap(first.Coefs)])
			_ = append(first.Coefs, 99)
			if !slices.Equal(wholeA, keptA) || !slices.Equal(wholeB, keptB) {
				t.Fatalf("%s changes them, or its result shares memory with them", callOfPolys(call, x, y))
			}
			if !slices.Equal(second.Coefs, kept) {
				t.Fatalf("results of %s share memory", call)
			}
		}
	}
}
