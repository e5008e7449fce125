package tests

import (
	"fmt"
	"math"
	"math/big"
	"slices"
	"testing"

	"loop.example/foxcalculus/impl"
)

// Promise 45: If PolyIn holds, PolyOf of its Low and coefficients is it, and PolyTimes of it and 1 too.

func TestPromise45Polynomials(t *testing.T) {
	unit := polyWith(0, 1)
	for _, a := range allPolys() {
		if !impl.PolyIn(a) {
			t.Errorf("%s does not hold", callOfPolys("PolyIn", a))
		}
		got, ok := impl.PolyOf(a.Low, a.Coefs)
		wantPoly(t, callOfPolys("PolyOf", a), got, ok, a)
		got, ok = impl.PolyTimes(a, unit)
		wantPoly(t, callOfPolys("PolyTimes", a, unit), got, ok, a)
		got, ok = impl.PolyTimes(unit, a)
		wantPoly(t, callOfPolys("PolyTimes", unit, a), got, ok, a)
	}
}

func TestPromise45ShortLists(t *testing.T) {
	held := 0
	for _, list := range shortLists(4, 0, 1, -1, billion, -billion, billion+1) {
		for _, low := range []int{0, 1, -1, 299, 300, 301, -299, -300, -301, math.MaxInt, math.MinInt} {
			a := polyWith(low, list...)
			want := isPolySlowly(a)
			if got := impl.PolyIn(a); got != want {
				t.Errorf("%s is %v", callOfPolys("PolyIn", a), got)
			}
			if want {
				held++
			}
		}
	}
	if held < 1000 {
		t.Errorf("PolyIn holds for %d polynomials only", held)
	}
}

func TestPromise45Limits(t *testing.T) {
	for low := -310; low <= 310; low++ {
		if got := impl.PolyIn(polyWith(low, 1)); got != (low >= -300 && low <= 300) {
			t.Errorf("PolyIn of t to the power of %d is %v", low, got)
		}
		if got := impl.PolyIn(poly{Low: low}); got != (low == 0) {
			t.Errorf("PolyIn without coefficients, with the power %d, is %v", low, got)
		}
	}
	for n := 1; n <= 300; n++ {
		for _, low := range []int{-300, -100, 0, 300} {
			if got := impl.PolyIn(spread(low, n, -1)); got != (n <= 200) {
				t.Errorf("PolyIn of %d coefficients from %d on is %v", n, low, got)
			}
		}
	}
	for _, n := range []int{billion, -billion, billion - 1, 1 - billion, 1, -1} {
		for _, a := range []poly{polyWith(0, n), polyWith(0, 1, n), polyWith(0, n, 1), polyWith(-300, 1, n, 1), ends(300, 200, n, n)} {
			if !impl.PolyIn(a) {
				t.Errorf("%s does not hold", callOfPolys("PolyIn", a))
			}
		}
	}
	if !impl.PolyIn(poly{}) || !impl.PolyIn(poly{Coefs: []int{}}) || !impl.PolyIn(polyWith(0, 1, 0, 0, 1)) {
		t.Error("PolyIn of 0, or with 0 between the ends, does not hold")
	}
}

func TestPromise45Invalid(t *testing.T) {
	for _, a := range noPolys() {
		if impl.PolyIn(a) {
			t.Errorf("%s holds", callOfPolys("PolyIn", a))
		}
	}
}

// Promise 46: If PolyOf succeeds with fewer than 200 coefficients, with a 0 more behind it is the same.

// wantOf wants PolyOf of a list with coefficients 0 at its ends.
func wantOf(t *testing.T, low int, list []int, want poly) {
	t.Helper()
	got, ok := impl.PolyOf(low, list)
	wantPoly(t, callOfPolys("PolyOf", polyWith(low, list...)), got, ok, want)
}

func TestPromise46Zeros(t *testing.T) {
	for _, a := range allPolys() {
		n := len(a.Coefs)
		for _, behind := range []int{0, 1, 2, 50, 198, 199, 200} {
			for _, ahead := range []int{0, 1, 2, 50, 198, 199, 200} {
				list := slices.Concat(make([]int, ahead), a.Coefs, make([]int, behind))
				low := a.Low - ahead
				if n+ahead+behind <= 200 && low >= -300 {
					wantOf(t, low, list, a)
				} else {
					got, ok := impl.PolyOf(low, list)
					wantNoPoly(t, callOfPolys("PolyOf", polyWith(low, list...)), got, ok)
				}
			}
		}
	}
}

func TestPromise46Examples(t *testing.T) {
	zero := poly{}
	for _, x := range []struct {
		low  int
		list []int
		want poly
	}{
		{0, nil, zero}, {0, []int{}, zero}, {5, nil, zero}, {-5, []int{}, zero}, {300, nil, zero}, {-300, []int{}, zero},
		{0, []int{0}, zero}, {3, []int{0, 0, 0}, zero}, {-3, []int{0, 0}, zero}, {300, []int{0, 0}, zero}, {-300, make([]int, 200), zero}, {300, make([]int, 200), zero},
		{0, []int{1}, polyWith(0, 1)}, {-2, []int{0, 1}, polyWith(-1, 1)}, {-2, []int{1, 0}, polyWith(-2, 1)}, {-2, []int{0, 0, 0, 5, 0}, polyWith(1, 5)}, {4, []int{0, 1, 0, -1, 0, 0}, polyWith(5, 1, 0, -1)}, {0, []int{1, 0, 1}, polyWith(0, 1, 0, 1)},
		{299, []int{0, 1}, polyWith(300, 1)}, {200, slices.Concat(make([]int, 100), []int{7, 7, 0}), polyWith(300, 7, 7)}, {-300, []int{0, 0, 1}, polyWith(-298, 1)}, {-300, []int{1, 0}, polyWith(-300, 1)}, {300, []int{1, 1, 0}, polyWith(300, 1, 1)},
		{0, []int{0, billion, -billion, 0}, polyWith(1, billion, -billion)}, {101, slices.Concat(make([]int, 199), []int{-1}), polyWith(300, -1)}, {-300, slices.Concat(make([]int, 199), []int{-1}), polyWith(-101, -1)},
	} {
		wantOf(t, x.low, x.list, x.want)
		if len(x.list) < 200 {
			wantOf(t, x.low, append(slices.Clone(x.list), 0), x.want)
		}
	}
}

func TestPromise46Failures(t *testing.T) {
	for _, x := range []poly{
		// The power of the first coefficient that is not 0 is beyond the limit.
		polyWith(300, 0, 1), polyWith(300, 0, 1, 0), polyWith(299, 0, 0, 1), ends(102, 200, 0, 1), polyWith(300, 0, 0, billion),
		// Only without the coefficients 0 the first power is in its range, or their number.
		polyWith(-301, 0, 1), polyWith(-302, 0, 0, 1, 1), polyWith(-301, 0), polyWith(301, 0), polyWith(301), polyWith(-301), ends(-310, 200, 0, 1), ends(0, 201, 0, 1), ends(0, 201, 1, 0), spread(0, 201, 0),
	} {
		got, ok := impl.PolyOf(x.Low, x.Coefs)
		wantNoPoly(t, callOfPolys("PolyOf", x), got, ok)
	}
}

func TestPromise46Invalid(t *testing.T) {
	for _, x := range noPolyParts() {
		got, ok := impl.PolyOf(x.Low, x.Coefs)
		wantNoPoly(t, callOfPolys("PolyOf", x), got, ok)
	}
}

// Promise 47: If PolyAdd succeeds, it is the same for both exchanged, and its value at 1 is the sum of both.

// wantPolySum wants PolyAdd of two polynomials, or a failure, and returns whether it is told.
func wantPolySum(t *testing.T, a, b poly) bool {
	t.Helper()
	call := callOfPolys("PolyAdd", a, b)
	got, ok := impl.PolyAdd(a, b)
	wantPowers(t, call, got, ok, polySumSlowly(a, b))
	exchanged, also := impl.PolyAdd(b, a)
	if ok != also || !samePoly(got, exchanged) {
		t.Errorf("%s is not the same exchanged", call)
	}
	if ok && polyOne(t, got) != polyOneSlowly(a)+polyOneSlowly(b) {
		t.Errorf("%s has the value %d at 1", call, polyOne(t, got))
	}
	return ok
}

func TestPromise47Pairs(t *testing.T) {
	told, failed := 0, 0
	polys := allPolys()
	for _, a := range polys {
		for _, b := range polys {
			if wantPolySum(t, a, b) {
				told++
			} else {
				failed++
			}
		}
	}
	if told < 10000 || failed < 1000 {
		t.Errorf("%d sums were told, and %d failed", told, failed)
	}
}

func TestPromise47Examples(t *testing.T) {
	zero := poly{}
	long := ends(0, 200, 1, 1)
	for _, x := range []struct {
		a, b, want poly
	}{
		{zero, zero, zero}, {zero, polyWith(-300, 1), polyWith(-300, 1)}, {zero, polyWith(300, 1, 1), polyWith(300, 1, 1)}, {poly{Coefs: []int{}}, polyWith(2, 3), polyWith(2, 3)}, {polyWith(0, 1), polyWith(0, 1), polyWith(0, 2)},
		{polyWith(0, 1), polyWith(3, 1), polyWith(0, 1, 0, 0, 1)}, {polyWith(-2, 1), polyWith(2, -1), polyWith(-2, 1, 0, 0, 0, -1)}, {polyWith(-1, 1, 2), polyWith(0, 3, 4), polyWith(-1, 1, 5, 4)},
		// Sums that cancel at one end, at both ends, in the middle and wholly.
		{polyWith(0, 1, 1), polyWith(0, -1, 1), polyWith(1, 2)}, {polyWith(0, 1, 1), polyWith(0, 1, -1), polyWith(0, 2)}, {polyWith(-1, 1, 2, 3), polyWith(-1, -1, 0, -3), polyWith(0, 2)}, {polyWith(0, 1, 1, 1), polyWith(1, -1), polyWith(0, 1, 0, 1)}, {polyWith(-5, 2, -3), polyWith(-5, -2, 3), zero}, {polyWith(0, 1, 2, 3), polyWith(0, -1, -2, 1), polyWith(2, 4)}, {polyWith(299, 1, 5), polyWith(299, -1), polyWith(300, 5)}, {polyWith(300, 1, 5), polyWith(300, 1, -5), polyWith(300, 2)},
		{long, timesNumber(long, -1), zero}, {long, polyWith(0, -1), polyWith(199, 1)}, {long, polyWith(199, -1), polyWith(0, 1)}, {long, polyWith(7, -1), polyWith(0, append([]int{1, 0, 0, 0, 0, 0, 0, -1}, append(make([]int, 191), 1)...)...)},
		{ends(0, 200, 1, 1), ends(1, 199, 1, -1), polyWith(0, 1, 1)}, {ends(0, 200, -1, 1), ends(0, 200, 1, 1), polyWith(199, 2)},
		{polyWith(0, billion-1), polyWith(0, 1), polyWith(0, billion)}, {polyWith(0, 1-billion), polyWith(0, -1), polyWith(0, -billion)}, {polyWith(0, billion), polyWith(0, -billion), zero}, {polyWith(0, billion), polyWith(1, billion), polyWith(0, billion, billion)}, {polyWith(0, 500000000), polyWith(0, 500000000), polyWith(0, billion)},
		{spread(-300, 200, billion), spread(-300, 200, -1), spread(-300, 200, billion-1)}, {spread(-100, 100, 1), spread(0, 100, 1), spread(-100, 200, 1)}, {polyWith(-300, 1), polyWith(-101, 1), ends(-300, 200, 1, 1)}, {polyWith(300, 1), polyWith(300, 1), polyWith(300, 2)},
	} {
		got, ok := impl.PolyAdd(x.a, x.b)
		wantPoly(t, callOfPolys("PolyAdd", x.a, x.b), got, ok, x.want)
		wantPolySum(t, x.b, x.a)
	}
}

func TestPromise47Failures(t *testing.T) {
	for _, x := range [][2]poly{
		{polyWith(0, billion), polyWith(0, 1)}, {polyWith(0, -billion), polyWith(0, -1)}, {polyWith(0, billion), polyWith(0, billion)}, {polyWith(0, 500000000), polyWith(0, 500000001)}, {polyWith(-1, 1, billion), polyWith(0, 1)}, {spread(0, 200, billion), polyWith(199, 1)}, {polyWith(0, 1, billion), polyWith(0, -1, 1)},
		{polyWith(0, 1), polyWith(200, 1)}, {polyWith(-1, 1), polyWith(199, 1)}, {spread(0, 200, 1), polyWith(200, 1)}, {spread(0, 200, 1), polyWith(-1, 1)}, {polyWith(-300, 1), polyWith(300, 1)}, {spread(-300, 200, 1), spread(300, 200, 1)}, {ends(0, 200, 1, 1), ends(1, 200, 1, 1)}, {spread(0, 101, 1), spread(101, 100, -1)},
		{polyWith(300, 1, 1), polyWith(300, -1)}, {polyWith(300, 1, 1, 1), polyWith(300, -1, -1)}, {polyWith(299, 1, 2, 3), polyWith(299, -1, -2)}, {spread(300, 200, 1), spread(300, 199, -1)},
	} {
		got, ok := impl.PolyAdd(x[0], x[1])
		wantNoPoly(t, callOfPolys("PolyAdd", x[0], x[1]), got, ok)
		wantPolySum(t, x[1], x[0])
	}
}

func TestPromise47Invalid(t *testing.T) {
	wantBothPolys(t, "PolyAdd", impl.PolyAdd)
}

// Promise 48: If PolyTimes succeeds, it is the same for both exchanged, and over the second one, if this is not 0, it is the first one.

// wantPolyProduct wants PolyTimes of two polynomials, or a failure, and the divisions back. It returns whether it is told.
func wantPolyProduct(t *testing.T, a, b poly) bool {
	t.Helper()
	call := callOfPolys("PolyTimes", a, b)
	got, ok := impl.PolyTimes(a, b)
	wantPowers(t, call, got, ok, polyProductSlowly(a, b))
	exchanged, also := impl.PolyTimes(b, a)
	if ok != also || !samePoly(got, exchanged) {
		t.Errorf("%s is not the same exchanged", call)
	}
	if ok && len(b.Coefs) > 0 {
		back, fine := impl.PolyOver(got, b)
		wantPoly(t, call+" over the second one", back, fine, a)
	}
	if ok && len(a.Coefs) > 0 {
		back, fine := impl.PolyOver(got, a)
		wantPoly(t, call+" over the first one", back, fine, b)
	}
	return ok
}

func TestPromise48Pairs(t *testing.T) {
	told, failed := 0, 0
	polys := allPolys()
	for _, a := range polys {
		for _, b := range polys {
			if len(a.Coefs)*len(b.Coefs) > 12000 {
				continue
			}
			if wantPolyProduct(t, a, b) {
				told++
			} else {
				failed++
			}
		}
	}
	if told < 10000 || failed < 1000 {
		t.Errorf("%d products were told, and %d failed", told, failed)
	}
}

func TestPromise48Examples(t *testing.T) {
	zero := poly{}
	plus, minus := polyWith(0, 1, 1), polyWith(0, 1, -1)
	for _, x := range []struct {
		a, b, want poly
	}{
		{zero, zero, zero}, {zero, plus, zero}, {polyWith(-300, 5), zero, zero}, {zero, polyWith(300, 1), zero}, {poly{Coefs: []int{}}, spread(300, 200, 1), zero}, {polyWith(0, -1), polyWith(0, -1), polyWith(0, 1)},
		{plus, minus, polyWith(0, 1, 0, -1)}, {plus, plus, polyWith(0, 1, 2, 1)}, {minus, polyWith(0, 1, 1, 1), polyWith(0, 1, 0, 0, -1)}, {polyWith(-1, 1, 1), polyWith(-1, 1, -1), polyWith(-2, 1, 0, -1)}, {polyWith(-3, 2, 3), polyWith(1, 5, -7), polyWith(-2, 10, 1, -21)}, {polyWith(2, 1), polyWith(-2, 1), polyWith(0, 1)},
		{polyWith(-150, 1), polyWith(-150, 1), polyWith(-300, 1)}, {polyWith(300, -1), polyWith(0, 1), polyWith(300, -1)}, {polyWith(300, 1), polyWith(-300, 1), polyWith(0, 1)}, {polyWith(300, 1), polyWith(-1, 1, 1), polyWith(299, 1, 1)}, {polyWith(150, 1, 1), polyWith(150, 1, -1), polyWith(300, 1, 0, -1)},
		{polyWith(0, 31250), polyWith(0, 32000), polyWith(0, billion)}, {polyWith(0, 31250), polyWith(0, -32000), polyWith(0, -billion)}, {polyWith(0, billion), polyWith(7, -1), polyWith(7, -billion)}, {polyWith(0, 500000000, 500000000), plus, polyWith(0, 500000000, billion, 500000000)}, {polyWith(0, billion, 1), minus, polyWith(0, billion, 1-billion, -1)},
		{spread(0, 100, 1), ends(0, 101, 1, 1), spread(0, 200, 1)}, {spread(0, 199, 1), minus, ends(0, 200, 1, -1)}, {ends(-300, 100, 1, 1), ends(0, 101, 1, 1), productOf(ends(-300, 100, 1, 1), ends(0, 101, 1, 1))}, {spread(0, 200, 10000), polyWith(0, -100000), spread(0, 200, -billion)},
		{powerOf(plus, 32), powerOf(minus, 32), powerOf(polyWith(0, 1, 0, -1), 32)}, // the sums on the way are far beyond the limit
		{powerOf(plus, 16), powerOf(plus, 16), powerOf(plus, 32)},
	} {
		got, ok := impl.PolyTimes(x.a, x.b)
		wantPoly(t, callOfPolys("PolyTimes", x.a, x.b), got, ok, x.want)
		wantPolyProduct(t, x.b, x.a)
	}
}

func TestPromise48Failures(t *testing.T) {
	plus := polyWith(0, 1, 1)
	for _, x := range [][2]poly{
		{polyWith(300, 1), polyWith(1, 1)}, {polyWith(150, 1), polyWith(151, 1)}, {polyWith(-300, 1), polyWith(-1, 1)}, {polyWith(-150, 1), polyWith(-151, 1, 1)}, {polyWith(300, 1), polyWith(300, 1)}, {polyWith(-300, -1), polyWith(-300, 1)},
		{spread(0, 101, 1), spread(0, 101, 1)}, {spread(0, 200, 1), plus}, {ends(0, 200, 1, 1), polyWith(0, 1, -1)}, {spread(0, 200, 1), spread(0, 200, 1)}, {ends(0, 101, 1, 1), ends(0, 101, 1, -1)},
		{polyWith(0, billion), polyWith(0, 2)}, {polyWith(0, 31623), polyWith(0, 31623)}, {polyWith(0, 1001), polyWith(0, -999001)}, {polyWith(0, billion), polyWith(0, billion)}, {polyWith(0, -billion), polyWith(0, -billion)}, {polyWith(0, 500000000, 500000001), plus}, {polyWith(0, 1, billion), polyWith(0, 1, 1)}, {polyWith(0, 1, billion, 1), polyWith(0, 1, billion, 1)}, {polyWith(0, 1, billion), polyWith(0, 1, -billion)},
		{powerOf(plus, 32), plus}, {powerOf(plus, 32), powerOf(plus, 32)}, {spread(0, 2, 500000001), plus},
		// The coefficients of these products are beyond the greatest int.
		{spread(0, 100, billion), spread(0, 100, billion)}, {spread(0, 100, billion), spread(0, 100, -billion)}, {spread(0, 10, billion), spread(0, 10, billion)}, {spread(0, 19, billion), spread(0, 19, billion)},
	} {
		got, ok := impl.PolyTimes(x[0], x[1])
		wantNoPoly(t, callOfPolys("PolyTimes", x[0], x[1]), got, ok)
		wantPolyProduct(t, x[1], x[0])
	}
}

func TestPromise48Deep(t *testing.T) {
	quotient, divisor := deep()
	if !wantPolyProduct(t, quotient, divisor) || !wantPolyProduct(t, divisor, quotient) || !wantPolyProduct(t, shifted(timesNumber(quotient, -1), 300), shifted(divisor, -300)) {
		t.Error("a product of deep polynomials failed")
	}
}

func TestPromise48Invalid(t *testing.T) {
	wantBothPolys(t, "PolyTimes", impl.PolyTimes)
}

// Promise 49: If PolyTimes succeeds, that of the first one and the sum of the second one and 1 is it and the first one, if all is told.

func TestPromise49Pairs(t *testing.T) {
	unit, told := polyWith(0, 1), 0
	polys := allPolys()
	for _, a := range polys {
		for _, b := range polys {
			product, ok := impl.PolyTimes(a, b)
			more, also := impl.PolyAdd(b, unit)
			if !ok || !also {
				continue
			}
			got, ok := impl.PolyTimes(a, more)
			want, also := impl.PolyAdd(product, a)
			if ok && also {
				told++
				wantPoly(t, callOfPolys("PolyTimes", a, more), got, ok, want)
			}
		}
	}
	if told < 10000 {
		t.Errorf("only %d products were told", told)
	}
}

// Promise 50: If PolyTurned succeeds, it leads back, and has the same value at 1.

func TestPromise50Polynomials(t *testing.T) {
	told, failed := 0, 0
	for _, a := range allPolys() {
		call := callOfPolys("PolyTurned", a)
		got, ok := impl.PolyTurned(a)
		wantPowers(t, call, got, ok, polyTurnedSlowly(a))
		if !ok {
			failed++
			continue
		}
		told++
		back, ok := impl.PolyTurned(got)
		wantPoly(t, callOfPolys("PolyTurned", got), back, ok, a)
		if polyOne(t, got) != polyOne(t, a) {
			t.Errorf("%s has another value at 1", call)
		}
	}
	if told < 200 || failed < 3 {
		t.Errorf("%d polynomials were turned, and %d failed", told, failed)
	}
}

func TestPromise50Examples(t *testing.T) {
	for _, x := range []struct {
		a, want poly
	}{
		{poly{}, poly{}}, {poly{Coefs: []int{}}, poly{}}, {polyWith(0, 5), polyWith(0, 5)}, {polyWith(3, -5), polyWith(-3, -5)}, {polyWith(-3, 7), polyWith(3, 7)},
		{polyWith(1, 1, 2), polyWith(-2, 2, 1)}, {polyWith(-4, 1, 2, 3), polyWith(2, 3, 2, 1)}, {polyWith(-1, 1, 2, 3), polyWith(-1, 3, 2, 1)}, {polyWith(-1, 1, 0, 0, 4), polyWith(-2, 4, 0, 0, 1)}, {polyWith(0, 1, -1), polyWith(-1, -1, 1)}, {polyWith(-1, 1, -3, 1), polyWith(-1, 1, -3, 1)},
		{polyWith(300, 1), polyWith(-300, 1)}, {polyWith(-300, 1), polyWith(300, 1)}, {polyWith(299, 1, 2), polyWith(-300, 2, 1)}, {polyWith(-300, 1, 2), polyWith(299, 2, 1)}, {ends(101, 200, 1, 2), ends(-300, 200, 2, 1)}, {ends(-300, 200, 1, 2), ends(101, 200, 2, 1)}, {ends(-100, 200, billion, -billion), ends(-99, 200, -billion, billion)},
	} {
		got, ok := impl.PolyTurned(x.a)
		wantPoly(t, callOfPolys("PolyTurned", x.a), got, ok, x.want)
	}
	for _, a := range []poly{polyWith(300, 1, 1), polyWith(299, 1, 0, 1), spread(300, 200, 1), spread(102, 200, 1), ends(202, 100, 1, 1)} {
		got, ok := impl.PolyTurned(a)
		wantNoPoly(t, callOfPolys("PolyTurned", a), got, ok)
	}
}

func TestPromise50Invalid(t *testing.T) {
	wantPolysOnly(t, "PolyTurned", impl.PolyTurned)
}

// Promise 51: If PolyPlain succeeds, PolyPlain of it is it, and PolyAlike of both holds.

func TestPromise51Polynomials(t *testing.T) {
	for _, a := range allPolys() {
		want := polyWith(0, a.Coefs...)
		if len(a.Coefs) > 0 && a.Coefs[0] < 0 {
			want = timesNumber(want, -1)
		}
		for _, b := range []poly{a, timesNumber(a, -1)} {
			got, ok := impl.PolyPlain(b)
			wantPoly(t, callOfPolys("PolyPlain", b), got, ok, want)
			if !impl.PolyAlike(got, b) || !impl.PolyAlike(b, got) {
				t.Errorf("%s is not alike", callOfPolys("PolyPlain", b))
			}
			again, ok := impl.PolyPlain(got)
			wantPoly(t, callOfPolys("PolyPlain", got), again, ok, got)
		}
	}
}

func TestPromise51Examples(t *testing.T) {
	for _, x := range []struct {
		a, want poly
	}{
		{poly{}, poly{}}, {poly{Coefs: []int{}}, poly{}}, {polyWith(0, 1), polyWith(0, 1)}, {polyWith(0, -1), polyWith(0, 1)}, {polyWith(-300, 3), polyWith(0, 3)}, {polyWith(300, -billion), polyWith(0, billion)}, {polyWith(0, -2, 1), polyWith(0, 2, -1)}, {polyWith(0, 2, -1), polyWith(0, 2, -1)},
		{polyWith(-2, -1, 3, -1), polyWith(0, 1, -3, 1)}, {polyWith(5, -1, 0, 0, -7), polyWith(0, 1, 0, 0, 7)}, {polyWith(-5, 1, -1), polyWith(0, 1, -1)}, {ends(300, 200, -1, 1), ends(0, 200, 1, -1)}, {spread(-300, 200, -billion), spread(0, 200, billion)},
	} {
		got, ok := impl.PolyPlain(x.a)
		wantPoly(t, callOfPolys("PolyPlain", x.a), got, ok, x.want)
	}
}

func TestPromise51Invalid(t *testing.T) {
	wantPolysOnly(t, "PolyPlain", impl.PolyPlain)
}

// Promise 52: If PolyOne succeeds, that of the square, if told, is its square.

func TestPromise52Squares(t *testing.T) {
	told := 0
	for _, a := range allPolys() {
		value := polyOne(t, a)
		if value != polyOneSlowly(a) {
			t.Errorf("%s returned %d", callOfPolys("PolyOne", a), value)
		}
		square, ok := impl.PolyTimes(a, a)
		if !ok {
			continue
		}
		told++
		if got := polyOne(t, square); got != value*value {
			t.Errorf("the square of %s has the value %d, not the square of %d", briefPoly(a), got, value)
		}
	}
	if told < 200 {
		t.Errorf("only %d squares were told", told)
	}
}

func TestPromise52Examples(t *testing.T) {
	for _, x := range []struct {
		a    poly
		want int
	}{
		{poly{}, 0}, {poly{Coefs: []int{}}, 0}, {polyWith(0, 7), 7}, {polyWith(-300, -7), -7}, {polyWith(0, 1, -1), 0}, {polyWith(-1, 1, -3, 1), -1}, {polyWith(300, 1, 0, 5), 6}, {polyWith(0, billion, billion), 2 * billion},
		{spread(0, 200, billion), 200 * billion}, {spread(-300, 200, -billion), -200 * billion}, {ends(0, 200, billion, -billion), 0}, {powerOf(polyWith(0, 1, 1), 32), 1 << 32},
	} {
		got, ok := impl.PolyOne(x.a)
		wantNumber(t, callOfPolys("PolyOne", x.a), got, ok, x.want)
	}
}

func TestPromise52Invalid(t *testing.T) {
	for _, a := range noPolys() {
		got, ok := impl.PolyOne(a)
		wantNoNumber(t, callOfPolys("PolyOne", a), got, ok)
	}
}

// Promise 53: If PolyOver succeeds, PolyTimes of it and the second one is the first one.

// wantQuotient wants PolyOver of two polynomials, or a failure, and returns whether it is told.
func wantQuotient(t *testing.T, a, b poly) bool {
	t.Helper()
	call := callOfPolys("PolyOver", a, b)
	got, ok := impl.PolyOver(a, b)
	if want, told := overSlowly(a, b); told {
		wantPoly(t, call, got, ok, want)
	} else {
		wantNoPoly(t, call, got, ok)
	}
	if ok {
		back, fine := impl.PolyTimes(got, b)
		wantPoly(t, call+" times the second one", back, fine, a)
	}
	return ok
}

func TestPromise53Pairs(t *testing.T) {
	told, failed := 0, 0
	divisors := slices.DeleteFunc(smallPolys(), func(a poly) bool { return len(a.Coefs) == 0 })
	for _, a := range allPolys() {
		for _, b := range divisors {
			if wantQuotient(t, a, b) {
				told++
			} else {
				failed++
			}
		}
	}
	if told < 3000 || failed < 10000 {
		t.Errorf("%d quotients were told, and %d failed", told, failed)
	}
}

func TestPromise53Products(t *testing.T) {
	short := shortPolys(2, []int{-1}, -2, 0, 1, 3)
	for _, a := range short {
		for _, b := range short[1:] {
			for _, c := range shortPolys(2, []int{3}, -1, 0, 1, 2) {
				product := productOf(a, b, c)
				wantQuotient(t, product, b)
				// A rest at one of the coefficients, or behind the last one.
				for i := range product.Coefs {
					rest := polyWith(product.Low, slices.Clone(product.Coefs)...)
					rest.Coefs[i]++
					if isPolySlowly(rest) {
						wantQuotient(t, rest, b)
					}
				}
				if n := len(product.Coefs); n > 0 {
					wantQuotient(t, polyWith(product.Low, append(slices.Clone(product.Coefs), 1)...), b)
				}
			}
		}
	}
}

func TestPromise53Examples(t *testing.T) {
	zero := poly{}
	minus := polyWith(0, 1, -1)
	for _, x := range []struct {
		a, b, want poly
	}{
		{zero, polyWith(0, 1), zero}, {zero, polyWith(-300, 5), zero}, {zero, minus, zero}, {poly{Coefs: []int{}}, spread(300, 200, -billion), zero},
		// By units, by numbers and by the same one.
		{polyWith(0, 5, 7), polyWith(0, 1), polyWith(0, 5, 7)}, {polyWith(0, 5, 7), polyWith(3, -1), polyWith(-3, -5, -7)}, {polyWith(-2, 5, 7), polyWith(-2, 1), polyWith(0, 5, 7)}, {polyWith(0, 6, -9), polyWith(0, 3), polyWith(0, 2, -3)}, {polyWith(0, 6, 0, -9), polyWith(1, -3), polyWith(-1, -2, 0, 3)}, {polyWith(0, billion), polyWith(0, -billion), polyWith(0, -1)}, {polyWith(7, 3, -5, 2), polyWith(7, 3, -5, 2), polyWith(0, 1)}, {spread(300, 200, billion), spread(300, 200, billion), polyWith(0, 1)},
		{polyWith(0, 1, 0, -1), minus, polyWith(0, 1, 1)}, {polyWith(-3, 1, 0, -1), polyWith(1, 1, 1), polyWith(-4, 1, -1)}, {polyWith(0, 1, 0, 0, 0, 0, 0, -1), polyWith(0, 1, 0, -1), polyWith(0, 1, 0, 1, 0, 1)}, {polyWith(0, 4, 0, -9), polyWith(0, 2, 3), polyWith(0, 2, -3)}, {polyWith(-2, 10, 1, -21), polyWith(1, 5, -7), polyWith(-3, 2, 3)},
		{ends(0, 200, 1, -1), minus, spread(0, 199, 1)}, {ends(0, 200, billion, -billion), minus, spread(0, 199, billion)}, {ends(0, 200, 1, -1), spread(0, 199, 1), minus}, {ends(0, 199, 1, -1), spread(0, 99, 1), productOf(minus, ends(0, 100, 1, 1))}, {spread(0, 200, billion), spread(0, 100, -billion), ends(0, 101, -1, -1)},
		{polyWith(300, 1), polyWith(0, 1), polyWith(300, 1)}, {polyWith(0, 1), polyWith(300, 1), polyWith(-300, 1)}, {polyWith(0, 1), polyWith(-300, -1), polyWith(300, -1)}, {polyWith(-300, 1, 1), polyWith(-300, 1, 1), polyWith(0, 1)}, {powerOf(polyWith(0, 1, 0, -1), 32), powerOf(minus, 32), powerOf(polyWith(0, 1, 1), 32)},
	} {
		got, ok := impl.PolyOver(x.a, x.b)
		wantPoly(t, callOfPolys("PolyOver", x.a, x.b), got, ok, x.want)
	}
}

func TestPromise53Failures(t *testing.T) {
	minus, plus := polyWith(0, 1, -1), polyWith(0, 1, 1)
	for _, x := range [][2]poly{
		// A rest, at the last coefficient only too, a first coefficient that does not divide, and a longer second one.
		{plus, minus}, {polyWith(0, 1, 0, -2), minus}, {polyWith(0, 1, 0, 0, 1), minus}, {polyWith(0, 1, 0, 0, 0, -1, 1), minus}, {ends(0, 200, 1, 1), minus}, {ends(0, 200, 1, -2), minus}, {polyWith(0, 2, 5, 3), polyWith(0, 2, 4)}, {polyWith(0, 2, 3, 2), polyWith(0, 2, 1)}, {polyWith(0, 1), polyWith(0, 2)}, {polyWith(0, 3, 2), polyWith(0, 2)}, {polyWith(0, 2, 3), polyWith(0, 2)}, {polyWith(0, 1, 2, 1), polyWith(0, 2, 2)}, {polyWith(0, 3, 5), polyWith(0, -2, 1)}, {polyWith(0, 4, 1), polyWith(0, 2, 1)}, {polyWith(0, 1), plus}, {polyWith(0, 1, -1), polyWith(0, 1, 0, -1)}, {minus, spread(0, 200, 1)}, {polyWith(0, billion), polyWith(0, billion-1)}, {polyWith(0, billion-1), polyWith(0, billion)},
		// The power of the quotient is beyond the limit.
		{polyWith(300, 1), polyWith(-1, 1)}, {polyWith(-300, 1), polyWith(1, 1)}, {polyWith(300, 1, 1), polyWith(-300, 1, 1)}, {polyWith(-300, 1), polyWith(300, -1)}, {polyWith(299, 1, 0, -1), polyWith(-2, 1, 1)}, {spread(-300, 200, -billion), spread(300, 200, billion)},
		// A coefficient of the quotient is beyond the limit.
		{productOf(powerOf(polyWith(0, 1, 0, -1), 20), powerOf(plus, 13)), powerOf(minus, 20)},
		// What would be the quotient grows on and on.
		{polyWith(0, append([]int{billion}, append(make([]int, 100), 1)...)...), polyWith(0, 1, -billion)}, {ends(0, 200, billion, 1), polyWith(0, 1, billion)}, {ends(0, 200, 1, 1), polyWith(0, 1, -2)}, {ends(0, 200, 1, -1), polyWith(0, 1, -3, 2)}, {ends(0, 200, billion, billion), polyWith(0, 1, billion, billion)},
	} {
		got, ok := impl.PolyOver(x[0], x[1])
		wantNoPoly(t, callOfPolys("PolyOver", x[0], x[1]), got, ok)
		wantQuotient(t, x[0], x[1])
	}
	product := productOf(powerOf(polyWith(0, 1, 0, -1), 20), powerOf(plus, 12))
	got, ok := impl.PolyOver(product, powerOf(minus, 20))
	wantPoly(t, "PolyOver with great coefficients", got, ok, powerOf(plus, 32))
}

// wantLeft wants the greatest size of a coefficient on the way of a division to be so great, so that the tests meet what they are for.
func wantLeft(t *testing.T, a, b poly, want func(left *big.Int) bool) {
	t.Helper()
	quotient, whole := quotientSlowly(a, b)
	if left := greatestLeft(a, b, quotient); !whole || !want(left) {
		t.Errorf("%s leaves %s on the way", callOfPolys("PolyOver", a, b), left)
	}
}

func TestPromise53Deep(t *testing.T) {
	quotient, divisor := deep()
	for _, sign := range []int{1, -1} {
		for _, low := range []int{0, -300, 300} {
			first := shifted(timesNumber(quotient, sign), low)
			product := productOf(first, divisor)
			for _, x := range [][2]poly{{first, divisor}, {divisor, first}} {
				wantLeft(t, product, x[1], func(left *big.Int) bool { return left.Cmp(big.NewInt(billion*billion)) > 0 })
				got, ok := impl.PolyOver(product, x[1])
				wantPoly(t, callOfPolys("PolyOver", product, x[1]), got, ok, x[0])
				more := polyWith(product.Low, slices.Clone(product.Coefs)...)
				more.Coefs[len(more.Coefs)-1]++
				got, ok = impl.PolyOver(more, x[1])
				wantNoPoly(t, "PolyOver with a rest at the last coefficient", got, ok)
			}
		}
	}
}

// Four great coefficients on each side leave as much on the way as the chapter allows, and a coefficient at their place makes it one more or less. No division is known that leaves as much and then goes on to the end.
func TestPromise53Left(t *testing.T) {
	four := slices.Repeat([]int{billion}, 4)
	b := polyWith(0, slices.Concat([]int{1}, make([]int, 9), four)...)
	for _, sign := range []int{1, -1} {
		for _, more := range []int{0, 1, -1, 2, billion} {
			for _, behind := range []int{10, 20, 185} {
				a := timesNumber(polyWith(0, slices.Concat(four, make([]int, 9), []int{-more}, make([]int, behind), []int{1})...), sign)
				left := greatestLeft(a, b, bigInts(a.Coefs[:4]))
				if want := big.NewInt(4*billion*billion + int64(more)); left.Cmp(want) != 0 {
					t.Errorf("%s leaves %s on the way, not %s", callOfPolys("PolyOver", a, b), left, want)
				}
				got, ok := impl.PolyOver(a, b)
				wantNoPoly(t, callOfPolys("PolyOver", a, b), got, ok)
			}
		}
	}
}

// What is left here is beyond the greatest int, if the division goes on.
func TestPromise53GreatLeft(t *testing.T) {
	for n := 5; n <= 60; n++ {
		great := slices.Repeat([]int{billion}, n)
		a := polyWith(0, slices.Concat(great, make([]int, 199-n), []int{1})...)
		for _, first := range []int{1, -1, 2, billion} {
			b := polyWith(0, slices.Concat([]int{first}, make([]int, n), great)...)
			got, ok := impl.PolyOver(a, b)
			wantNoPoly(t, callOfPolys("PolyOver", a, b), got, ok)
		}
	}
}

func bigInts(list []int) []*big.Int {
	var numbers []*big.Int
	for _, n := range list {
		numbers = append(numbers, big.NewInt(int64(n)))
	}
	return numbers
}

func TestPromise53Invalid(t *testing.T) {
	wantBothPolys(t, "PolyOver", impl.PolyOver)
	for _, a := range append(allPolys(), noPolys()...) {
		for _, b := range []poly{{}, {Coefs: []int{}}} {
			got, ok := impl.PolyOver(a, b)
			wantNoPoly(t, callOfPolys("PolyOver", a)+" by 0", got, ok)
		}
	}
}

// Promise 54: If PolyAlike holds, it holds for both exchanged, and both have as many coefficients.

func TestPromise54Pairs(t *testing.T) {
	held := 0
	polys := allPolys()
	for _, a := range polys {
		for _, b := range polys {
			call := callOfPolys("PolyAlike", a, b)
			got := impl.PolyAlike(a, b)
			if got != alikeSlowly(a, b) || got != impl.PolyAlike(b, a) {
				t.Errorf("%s is %v, and %v exchanged", call, got, impl.PolyAlike(b, a))
			}
			if got && len(a.Coefs) != len(b.Coefs) {
				t.Errorf("%s holds, with unlike numbers of coefficients", call)
			}
			if got {
				held++
			}
		}
	}
	if held < 500 {
		t.Errorf("PolyAlike holds for %d pairs only", held)
	}
}

func TestPromise54Units(t *testing.T) {
	for _, a := range allPolys()[1:] {
		for _, low := range []int{-300, -1, 0, 1, 77, 300} {
			b := polyWith(low, a.Coefs...)
			for _, c := range []poly{b, timesNumber(b, -1)} {
				if !impl.PolyAlike(a, c) || !impl.PolyAlike(c, a) {
					t.Errorf("%s does not hold", callOfPolys("PolyAlike", a, c))
				}
			}
		}
	}
}

func TestPromise54Examples(t *testing.T) {
	zero, empty := poly{}, poly{Coefs: []int{}}
	for _, x := range [][2]poly{{zero, zero}, {zero, empty}, {empty, empty}, {polyWith(0, 1), polyWith(300, -1)}, {polyWith(-300, 1), polyWith(300, 1)}, {polyWith(-300, 1, -1), polyWith(300, -1, 1)}, {polyWith(0, 1, 2), polyWith(5, -1, -2)}} {
		if !impl.PolyAlike(x[0], x[1]) {
			t.Errorf("%s does not hold", callOfPolys("PolyAlike", x[0], x[1]))
		}
	}
	for _, x := range [][2]poly{
		{zero, polyWith(0, 1)}, {polyWith(0, -1), empty}, {polyWith(0, 1), polyWith(0, 2)}, {polyWith(0, 1, 2), polyWith(0, 2, 1)}, {polyWith(0, 1, 2), polyWith(0, -1, 2)}, {polyWith(0, 1, 2), polyWith(0, 1, -2)}, {polyWith(0, 1, 1), polyWith(0, 1)}, {polyWith(0, 1), polyWith(0, 1, 1)}, {polyWith(0, 1, 0, 1), polyWith(0, 1, 1)}, {polyWith(0, 1, 2, 3), polyWith(0, -1, -2, 3)}, {polyWith(0, 1, 1), polyWith(0, 2, 2)}, {spread(0, 200, 1), spread(0, 199, 1)},
	} {
		if impl.PolyAlike(x[0], x[1]) || impl.PolyAlike(x[1], x[0]) {
			t.Errorf("%s holds", callOfPolys("PolyAlike", x[0], x[1]))
		}
	}
}

func TestPromise54Invalid(t *testing.T) {
	for _, a := range noPolys() {
		for _, b := range []poly{{}, polyWith(0, 1), polyWith(0, a.Coefs...), a, timesNumber(a, -1)} {
			if impl.PolyAlike(a, b) || impl.PolyAlike(b, a) {
				t.Errorf("%s holds", callOfPolys("PolyAlike", a, b))
			}
		}
	}
}

// Promise 55: If PolyOfSum succeeds, its value at 1 is SumPlain, and that of the square of the sum, if told, is its square.

func TestPromise55Sums(t *testing.T) {
	told := 0
	for _, sum := range allSums() {
		call := "PolyOfSum of " + brief(sum)
		got, ok := impl.PolyOfSum(sum)
		wantPowers(t, call, got, ok, polyOfSumSlowly(sum))
		if !ok || polyOne(t, got) != sumPlain(t, sum) {
			t.Errorf("%s returned %s, %v", call, briefPoly(got), ok)
		}
		square, ok := impl.SumTimes(sum, sum)
		if !ok {
			continue
		}
		told++
		ofSquare, ok := impl.PolyOfSum(square)
		want, also := impl.PolyTimes(got, got)
		if !also {
			t.Errorf("the square of %s failed", call)
		}
		wantPoly(t, "PolyOfSum of the square of "+brief(sum), ofSquare, ok, want)
	}
	if told < 20 {
		t.Errorf("only %d squares were told", told)
	}
}

func TestPromise55Words(t *testing.T) {
	for _, s := range append(allWords(4), longWords()...) {
		power := 0
		for _, n := range sumsSlowly(s) {
			power += n
		}
		got, ok := impl.PolyOfSum(terms{term(-3, s)})
		wantPoly(t, fmt.Sprintf("PolyOfSum of %q", s), got, ok, polyWith(power, -3))
	}
}

func TestPromise55Examples(t *testing.T) {
	for _, x := range []struct {
		sum  terms
		want poly
	}{
		{nil, poly{}}, {terms{}, poly{}}, {one(), polyWith(0, 1)}, {terms{term(-5, "")}, polyWith(0, -5)}, {terms{term(1, ""), term(-1, "a")}, polyWith(0, 1, -1)}, {terms{term(1, ""), term(-1, "d")}, polyWith(0, 1, -1)}, {terms{term(2, "C"), term(3, "b")}, polyWith(-1, 2, 0, 3)},
		// Words whose letters add up to the same power, and such ones that cancel.
		{terms{term(2, "a"), term(3, "b"), term(4, "c"), term(5, "d")}, polyWith(1, 14)}, {terms{term(1, "a"), term(-1, "b")}, poly{}}, {terms{term(1, "A"), term(-1, "D")}, poly{}}, {terms{term(1, ""), term(-1, "aB")}, poly{}}, {terms{term(1, ""), term(-1, "abAB")}, poly{}}, {terms{term(1, ""), term(2, "a"), term(-1, "Ab")}, polyWith(1, 2)}, {terms{term(-2, "a"), term(1, "b"), term(7, "aab")}, polyWith(1, -1, 0, 7)}, {terms{term(1, "A"), term(1, "b"), term(-1, "aBC")}, polyWith(1, 1)}, {terms{term(1, "a"), term(-1, "b"), term(1, "dd"), term(-1, "bAccc")}, polyWith(2, 1, -1)},
		{terms{term(7, times("a", 60))}, polyWith(60, 7)}, {terms{term(7, times("D", 60))}, polyWith(-60, 7)}, {terms{term(1, times("A", 60)), term(2, times("a", 60))}, ends(-60, 121, 1, 2)}, {terms{term(1, times("aB", 30))}, polyWith(0, 1)}, {terms{term(1, times("B", 60)), term(-1, times("C", 60))}, poly{}},
		{withCoefs(grid(18, 1), million), spread(0, 18, million)}, {terms{term(million, "A"), term(million, "B"), term(million, "C"), term(million, "D")}, polyWith(-1, 4*million)},
	} {
		got, ok := impl.PolyOfSum(x.sum)
		wantPoly(t, "PolyOfSum of "+brief(x.sum), got, ok, x.want)
	}
}

func TestPromise55Limits(t *testing.T) {
	var words []string
	for _, s := range allWords(5) {
		if sums := sumsSlowly(s); len(s) == 5 && sums[0]+sums[1]+sums[2]+sums[3] == 3 {
			words = append(words, s)
		}
	}
	for _, coef := range []int{million, -million} {
		var list terms
		for _, s := range words[:300] {
			list = append(list, term(coef, s))
		}
		sum := gatherSlowly(list)
		got, ok := impl.PolyOfSum(sum)
		wantPoly(t, "PolyOfSum of "+brief(sum), got, ok, polyWith(3, 300*coef))
	}
}

func TestPromise55Invalid(t *testing.T) {
	for _, list := range noSums() {
		got, ok := impl.PolyOfSum(list)
		wantNoPoly(t, "PolyOfSum of "+brief(list), got, ok)
	}
}

// The general rules: results have memory of their own, arguments are left, and nothing is kept.

func TestPolynomialsMemory(t *testing.T) {
	must := func(a poly, _ bool) poly { return a }
	wantOwnPolys(t, "PolyOf", func(a, b poly) poly { return must(impl.PolyOf(a.Low, a.Coefs)) })
	wantOwnPolys(t, "PolyAdd", func(a, b poly) poly { return must(impl.PolyAdd(a, b)) })
	wantOwnPolys(t, "PolyTimes", func(a, b poly) poly { return must(impl.PolyTimes(a, b)) })
	wantOwnPolys(t, "PolyTurned", func(a, b poly) poly { return must(impl.PolyTurned(a)) })
	wantOwnPolys(t, "PolyPlain", func(a, b poly) poly { return must(impl.PolyPlain(a)) })
	wantOwnPolys(t, "PolyOver", func(a, b poly) poly { return must(impl.PolyOver(a, b)) })
	wantOwnPolys(t, "PolyOne and PolyAlike", func(a, b poly) poly {
		impl.PolyOne(a)
		impl.PolyAlike(a, b)
		return poly{}
	})
	list := []int{0, 0, 3, 0, -1, 0, 0}
	kept := slices.Clone(list)
	got, ok := impl.PolyOf(-2, list[:6])
	wantPoly(t, "PolyOf", got, ok, polyWith(0, 3, 0, -1))
	clear(got.Coefs[:cap(got.Coefs)])
	if !slices.Equal(list, kept) {
		t.Errorf("PolyOf changed its list to %d, or shares memory with it", list)
	}
	sum := terms{term(2, "A"), term(1, "b"), term(9, "x")}
	keptSum := slices.Clone(sum)
	impl.PolyOfSum(sum[:2])
	impl.PolyOfSum(sum)
	if !slices.Equal(sum, keptSum) {
		t.Errorf("PolyOfSum changed its sum to %v", sum)
	}
}

func TestPolynomialsKeepNoState(t *testing.T) {
	a, b := polyWith(-1, 1, -1), polyWith(2, 1, 1)
	for range 3 {
		got, ok := impl.PolyTimes(a, b)
		wantPoly(t, "PolyTimes", got, ok, polyWith(1, 1, 0, -1))
		got, ok = impl.PolyTimes(a, polyWith(0, 0))
		wantNoPoly(t, "PolyTimes", got, ok)
		got, ok = impl.PolyOver(polyWith(1, 1, 0, -1), b)
		wantPoly(t, "PolyOver", got, ok, a)
		got, ok = impl.PolyOver(a, b)
		wantNoPoly(t, "PolyOver", got, ok)
		got, ok = impl.PolyAdd(a, b)
		wantPoly(t, "PolyAdd", got, ok, polyWith(-1, 1, -1, 0, 1, 1))
		got, ok = impl.PolyTurned(b)
		wantPoly(t, "PolyTurned", got, ok, polyWith(-3, 1, 1))
		got, ok = impl.PolyPlain(a)
		wantPoly(t, "PolyPlain", got, ok, polyWith(0, 1, -1))
		got, ok = impl.PolyOf(0, []int{0, 0})
		wantPoly(t, "PolyOf", got, ok, poly{})
		got, ok = impl.PolyOfSum(terms{term(1, "a"), term(1, "b")})
		wantPoly(t, "PolyOfSum", got, ok, polyWith(1, 2))
		wantNumber(t, "PolyOne", polyOne(t, b), true, 2)
	}
}
