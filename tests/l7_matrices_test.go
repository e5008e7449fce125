package tests

import (
	"fmt"
	"math"
	"slices"
	"testing"

	"loop.example/foxcalculus/impl"
)

// matrixOne returns the square matrix of 1.
func matrixOne(t *testing.T, n int) matrix {
	t.Helper()
	got, ok := impl.MatrixOne(n)
	if !ok {
		t.Fatalf("MatrixOne of %d failed", n)
	}
	return got
}

// matrixFlip returns the matrix with rows as columns.
func matrixFlip(t *testing.T, m matrix) matrix {
	t.Helper()
	got, ok := impl.MatrixFlip(m)
	if !ok {
		t.Fatalf("%s failed", callOfMatrices("MatrixFlip", m))
	}
	return got
}

// Promise 56: If MatrixIn holds, MatrixTimes of it and MatrixOne of its columns is it.

func TestPromise56Matrices(t *testing.T) {
	for _, m := range allMatrices() {
		if !impl.MatrixIn(m) {
			t.Errorf("%s does not hold", callOfMatrices("MatrixIn", m))
		}
		got, ok := impl.MatrixTimes(m, matrixOne(t, len(m[0])))
		wantMatrix(t, callOfMatrices("MatrixTimes and 1", m), got, ok, m)
		got, ok = impl.MatrixTimes(matrixOne(t, len(m)), m)
		wantMatrix(t, callOfMatrices("MatrixTimes of 1 and it", m), got, ok, m)
	}
}

func TestPromise56Sizes(t *testing.T) {
	for rows := range 8 {
		for columns := range 8 {
			for _, a := range []poly{{}, {Coefs: []int{}}, number(1), polyWith(-300, 1, -1), spread(300, 200, billion)} {
				m := filled(rows, columns, a)
				if got := impl.MatrixIn(m); got != isMatrixSlowly(m) {
					t.Errorf("%s is %v", callOfMatrices("MatrixIn", m), got)
				}
			}
		}
	}
}

func TestPromise56Ragged(t *testing.T) {
	held := 0
	for _, lengths := range shortLists(5, 0, 1, 2, 4, 5) {
		var m matrix
		for _, n := range lengths {
			m = append(m, make([]poly, n))
		}
		got := impl.MatrixIn(m)
		if got != isMatrixSlowly(m) {
			t.Errorf("MatrixIn of rows with %d polynomials is %v", lengths, got)
		}
		if got {
			held++
		}
	}
	if held != 3*4 {
		t.Errorf("MatrixIn holds for %d lists, not for 12", held)
	}
}

func TestPromise56Invalid(t *testing.T) {
	for _, m := range noMatrices() {
		if impl.MatrixIn(m) {
			t.Errorf("%s holds", callOfMatrices("MatrixIn", m))
		}
	}
}

// Promise 57: If MatrixOne succeeds, its determinant is 1, and its trace the number of rows.

func TestPromise57Numbers(t *testing.T) {
	for n := -10; n <= 10; n++ {
		got, ok := impl.MatrixOne(n)
		call := fmt.Sprintf("MatrixOne of %d", n)
		if n < 1 || n > 4 {
			wantNoMatrix(t, call, got, ok)
			continue
		}
		want, _ := matrixWith(n, n, func(i, k int) (poly, bool) {
			if i == k {
				return number(1), true
			}
			return poly{}, true
		})
		wantMatrix(t, call, got, ok, want)
		if !impl.MatrixIn(got) {
			t.Errorf("%s is no matrix", call)
		}
		det, ok := impl.MatrixDet(got)
		wantPoly(t, "the determinant of "+call, det, ok, number(1))
		trace, ok := impl.MatrixTrace(got)
		wantPoly(t, "the trace of "+call, trace, ok, number(n))
	}
}

func TestPromise57Examples(t *testing.T) {
	for n, want := range []matrix{ofNumbers(1, 1), ofNumbers(2, 1, 0, 0, 1), ofNumbers(3, 1, 0, 0, 0, 1, 0, 0, 0, 1), ofNumbers(4, 1, 0, 0, 0, 0, 1, 0, 0, 0, 0, 1, 0, 0, 0, 0, 1)} {
		got, ok := impl.MatrixOne(n + 1)
		wantMatrix(t, fmt.Sprintf("MatrixOne of %d", n+1), got, ok, want)
	}
}

func TestPromise57Invalid(t *testing.T) {
	for _, n := range append(beyondInts(4), 0, -1, -2, -3, -4, 5, 16, 255, 256, 257, 1<<32+4, -1<<32+1) {
		got, ok := impl.MatrixOne(n)
		wantNoMatrix(t, fmt.Sprintf("MatrixOne of %d", n), got, ok)
	}
}

// Promise 58: If MatrixTimes succeeds, MatrixFlip of it is MatrixTimes of the flipped second one and the flipped first one, if told.

// wantMatrixProduct wants MatrixTimes of two matrices, or a failure, and the product of both flipped. It returns whether both are told.
func wantMatrixProduct(t *testing.T, a, b matrix) bool {
	t.Helper()
	call := callOfMatrices("MatrixTimes", a, b)
	got, ok := impl.MatrixTimes(a, b)
	want, told := matrixProductSlowly(a, b)
	wantMatrixIf(t, call, got, ok, want, told)
	flipped, also := impl.MatrixTimes(matrixFlip(t, b), matrixFlip(t, a))
	if ok && also {
		wantMatrix(t, call+", of both flipped,", flipped, also, matrixFlip(t, got))
	}
	return ok && also
}

func TestPromise58Pairs(t *testing.T) {
	told := map[string]int{}
	for _, a := range someMatrices() {
		for _, b := range someMatrices() {
			if wantMatrixProduct(t, a, b) {
				told[fmt.Sprint(len(a), len(b), len(b[0]))]++
			} else if len(a[0]) == len(b) {
				told["failed"]++
			}
		}
	}
	if len(told) != 4*4*4+1 || told["failed"] < 100 {
		t.Errorf("products were told so often for numbers of rows and columns: %v", told)
	}
}

func TestPromise58Sizes(t *testing.T) {
	eachSize(func(rows, columns int) {
		for _, a := range greatMatrices(rows, columns) {
			for _, b := range matricesOf(columns, 5-rows) {
				wantMatrixProduct(t, a, b)
			}
		}
		eachSize(func(more, others int) {
			a, b := filled(rows, columns, number(1)), filled(more, others, number(1))
			got, ok := impl.MatrixTimes(a, b)
			wantMatrixIf(t, callOfMatrices("MatrixTimes", a, b), got, ok, filled(rows, others, number(columns)), columns == more)
		})
	})
}

func TestPromise58Examples(t *testing.T) {
	power, inverse := polyWith(1, 1), polyWith(-1, 1)
	for _, x := range []struct {
		a, b, want matrix
	}{
		// One row, one column, and one of each.
		{ofNumbers(1, 3), ofNumbers(1, -5), ofNumbers(1, -15)}, {ofNumbers(1, 0), ofNumbers(1, billion), ofNumbers(1, 0)}, {inColumns(1, polyWith(0, 1, 1)), inColumns(1, polyWith(0, 1, -1)), inColumns(1, polyWith(0, 1, 0, -1))},
		{ofNumbers(4, 1, 2, 3, 4), ofNumbers(1, 5, 6, 7, 8), ofNumbers(1, 70)}, {ofNumbers(1, 1, 2, 3, 4), ofNumbers(4, 5, 6, 7, 8), ofNumbers(4, 5, 6, 7, 8, 10, 12, 14, 16, 15, 18, 21, 24, 20, 24, 28, 32)}, {ofNumbers(2, 1, 2), ofNumbers(3, 1, 2, 3, 4, 5, 6), ofNumbers(3, 9, 12, 15)}, {ofNumbers(1, 1, 2), ofNumbers(1, 7), ofNumbers(1, 7, 14)},
		{ofNumbers(2, 1, 2, 3, 4), ofNumbers(2, 0, 1, 1, 0), ofNumbers(2, 2, 1, 4, 3)}, {ofNumbers(2, 0, 1, 1, 0), ofNumbers(2, 1, 2, 3, 4), ofNumbers(2, 3, 4, 1, 2)}, {ofNumbers(2, 1, 2, 3, 4, 5, 6), ofNumbers(2, 1, 1, 1, -1), ofNumbers(2, 3, -1, 7, -1, 11, -1)},
		{inColumns(2, power, number(1), number(1), inverse), inColumns(2, inverse, number(-1), number(-1), power), filled(2, 2, poly{})},
		{inColumns(2, power, number(2), poly{}, inverse), inColumns(2, inverse, power, number(1), polyWith(0, 1, -1)), inColumns(2, number(3), polyWith(0, 2, -2, 1), inverse, polyWith(-1, 1, -1))},
		{ofNumbers(2, large, 0, 0, large), ofNumbers(2, 0, large, large, 0), nil}, {ofNumbers(2, large, 0, 0, large), ofNumbers(2, 0, 10000, 10000, 0), ofNumbers(2, 0, billion, billion, 0)},
		{ofNumbers(1, billion), ofNumbers(4, 1, 0, -1, 2), nil}, {ofNumbers(1, billion), ofNumbers(4, 1, 0, -1, 0), ofNumbers(4, billion, 0, -billion, 0)}, {inColumns(1, polyWith(300, 1)), inColumns(2, poly{}, polyWith(1, 1)), nil}, {inColumns(1, polyWith(300, 1)), inColumns(2, poly{}, polyWith(-300, 1)), ofNumbers(2, 0, 1)},
	} {
		got, ok := impl.MatrixTimes(x.a, x.b)
		wantMatrixIf(t, callOfMatrices("MatrixTimes", x.a, x.b), got, ok, x.want, x.want != nil)
		wantMatrixProduct(t, x.a, x.b)
	}
}

// A product on the way is none, though all of them together would be 0 or another polynomial.
func TestPromise58Products(t *testing.T) {
	long := spread(0, 101, 1)
	for _, pair := range [][2][]poly{
		{numbers(large, large), numbers(large, -large)}, {numbers(0, large, large), numbers(1, large, -large)}, {numbers(large, 0, large), numbers(large, 0, -large)}, {numbers(large, large, 0), numbers(large, -large, 5)}, {numbers(1, 2, large, -large), numbers(1, 2, large, large)}, {numbers(billion, billion), numbers(2, -2)}, {numbers(2, -1, 0, 0), numbers(billion, billion, 1, 1)},
		{inColumns(2, polyWith(300, 1), polyWith(300, -1))[0], inColumns(2, polyWith(1, 1), polyWith(1, 1))[0]}, {[]poly{polyWith(-300, 1), number(1), polyWith(-300, -1)}, []poly{polyWith(-1, 1), number(1), polyWith(-1, 1)}}, {[]poly{long, long}, []poly{long, timesNumber(long, -1)}},
	} {
		for range 2 {
			a, b := inColumns(len(pair[0]), pair[0]...), inColumns(1, pair[1]...)
			got, ok := impl.MatrixTimes(a, b)
			wantNoMatrix(t, callOfMatrices("MatrixTimes", a, b), got, ok)
			slices.Reverse(pair[0])
			slices.Reverse(pair[1])
		}
	}
}

func TestPromise58InTurn(t *testing.T) {
	ones := func(n int) []poly { return slices.Repeat(numbers(1), n) }
	single := func(m matrix, ok bool) (poly, bool) {
		if !ok {
			return poly{}, false
		}
		return m[0][0], true
	}
	wantInTurn(t, "MatrixTimes of a row and 1", 4, func(parts []poly) (poly, bool) {
		return single(impl.MatrixTimes(inColumns(len(parts), parts...), inColumns(1, ones(len(parts))...)))
	})
	wantInTurn(t, "MatrixTimes of 1 and a column", 4, func(parts []poly) (poly, bool) {
		return single(impl.MatrixTimes(inColumns(len(parts), ones(len(parts))...), inColumns(1, parts...)))
	})
	// The same in each place of a product, with 0 in the others.
	for place := range 12 {
		wantInTurn(t, fmt.Sprintf("MatrixTimes with the place %d", place), 4, func(parts []poly) (poly, bool) {
			i, k := place/4, place%4
			a, b := filled(3, len(parts), poly{}), filled(len(parts), 4, poly{})
			for n, part := range parts {
				a, b = with(a, i, n, part), with(b, n, k, number(1))
			}
			got, ok := impl.MatrixTimes(a, b)
			if !ok {
				wantNoMatrix(t, callOfMatrices("MatrixTimes", a, b), got, ok)
				return poly{}, false
			}
			want := with(filled(3, 4, poly{}), i, k, got[i][k])
			wantMatrix(t, callOfMatrices("MatrixTimes", a, b), got, ok, want)
			return got[i][k], true
		})
	}
}

func TestPromise58Invalid(t *testing.T) {
	wantBothMatrices(t, "MatrixTimes", impl.MatrixTimes)
}

// Promise 59: If MatrixTimes succeeds for square matrices, its determinant is the product of both, if all are told.

func TestPromise59Pairs(t *testing.T) {
	told := map[int]int{}
	squares := squareMatrices()
	for _, a := range squares {
		for _, b := range squares {
			if len(a) != len(b) {
				continue
			}
			product, ok := impl.MatrixTimes(a, b)
			if !ok {
				continue
			}
			got, ok := impl.MatrixDet(product)
			first, also := impl.MatrixDet(a)
			second, fine := impl.MatrixDet(b)
			want, all := impl.PolyTimes(first, second)
			if ok && also && fine && all {
				told[len(a)]++
				wantPoly(t, callOfMatrices("the determinant of the product", a, b), got, ok, want)
			}
		}
	}
	for n := 1; n <= 4; n++ {
		if told[n] < 150 {
			t.Errorf("only %d determinants of products of %d rows were told", told[n], n)
		}
	}
}

func TestPromise59Examples(t *testing.T) {
	for _, x := range []struct {
		a, b matrix
		want poly
	}{
		{ofNumbers(1, 3), ofNumbers(1, -5), number(-15)}, {ofNumbers(2, 1, 2, 3, 4), ofNumbers(2, 5, 6, 7, 8), number(4)}, {ofNumbers(2, 1, 2, 2, 4), ofNumbers(2, 5, 6, 7, 8), poly{}}, {inColumns(2, polyWith(1, 1), number(1), number(1), polyWith(1, 1)), inColumns(2, polyWith(-1, 1), number(1), poly{}, number(1)), polyWith(-1, -1, 0, 1)},
		{ofNumbers(3, 2, 0, 1, 1, 3, 0, 0, 1, 1), ofNumbers(3, 0, 1, 0, 0, 0, 1, 1, 0, 0), number(7)}, {ofNumbers(4, 0, 0, 0, 1, 1, 0, 0, 0, 0, 1, 0, 0, 0, 0, 1, 0), ofNumbers(4, 2, 0, 0, 0, 0, 3, 0, 0, 0, 0, 5, 0, 0, 0, 0, 7), number(-210)},
	} {
		product, ok := impl.MatrixTimes(x.a, x.b)
		if !ok {
			t.Errorf("%s failed", callOfMatrices("MatrixTimes", x.a, x.b))
		}
		got, ok := impl.MatrixDet(product)
		wantPoly(t, callOfMatrices("the determinant of the product", x.a, x.b), got, ok, x.want)
	}
}

// A product may be square though its factors are not: then only it has a determinant.
func TestPromise59Invalid(t *testing.T) {
	eachSize(func(rows, columns int) {
		if rows == columns {
			return
		}
		a, b := filled(rows, columns, number(1)), filled(columns, rows, polyWith(1, 1))
		for _, m := range []matrix{a, b} {
			got, ok := impl.MatrixDet(m)
			wantNoPoly(t, callOfMatrices("MatrixDet", m), got, ok)
		}
		product, ok := impl.MatrixTimes(a, b)
		wantMatrix(t, callOfMatrices("MatrixTimes", a, b), product, ok, filled(rows, rows, polyWith(1, columns)))
		want := poly{}
		if rows == 1 {
			want = polyWith(1, columns)
		}
		got, ok := impl.MatrixDet(product)
		wantPoly(t, callOfMatrices("the determinant of the product", a, b), got, ok, want)
	})
}

// Promise 60: If MatrixLess succeeds, that of it and itself has the polynomial 0 everywhere, and the sum of it and that of both exchanged is 0 everywhere.

// wantDifference wants MatrixLess of two matrices, or a failure, and the opposite for both exchanged. It returns whether it is told.
func wantDifference(t *testing.T, a, b matrix) bool {
	t.Helper()
	call := callOfMatrices("MatrixLess", a, b)
	got, ok := impl.MatrixLess(a, b)
	want, told := lessSlowly(a, b)
	wantMatrixIf(t, call, got, ok, want, told)
	exchanged, also := impl.MatrixLess(b, a)
	if ok != also {
		t.Errorf("%s is told exchanged only, or not exchanged", call)
	}
	if !ok || !also {
		return false
	}
	zero := filled(len(a), len(a[0]), poly{})
	none, fine := impl.MatrixLess(got, got)
	wantMatrix(t, callOfMatrices("MatrixLess of twice", got), none, fine, zero)
	sum, _ := matrixWith(len(a), len(a[0]), func(i, k int) (poly, bool) { return impl.PolyAdd(got[i][k], exchanged[i][k]) })
	wantMatrix(t, call+" and exchanged, added up,", sum, true, zero)
	return true
}

func TestPromise60Pairs(t *testing.T) {
	told, failed := 0, 0
	eachSize(func(rows, columns int) {
		list := matricesOf(rows, columns)
		for i, a := range list {
			for _, b := range list[i:] {
				if wantDifference(t, a, b) {
					told++
				} else {
					failed++
				}
			}
		}
	})
	if told < 2000 || failed < 500 {
		t.Errorf("%d differences were told, and %d failed", told, failed)
	}
}

func TestPromise60Itself(t *testing.T) {
	for _, m := range allMatrices() {
		got, ok := impl.MatrixLess(m, m)
		wantMatrix(t, callOfMatrices("MatrixLess of twice", m), got, ok, filled(len(m), len(m[0]), poly{}))
		zero := got
		got, ok = impl.MatrixLess(m, zero)
		wantMatrix(t, callOfMatrices("MatrixLess", m, zero), got, ok, m)
		got, ok = impl.MatrixLess(zero, m)
		want, _ := matrixWith(len(m), len(m[0]), func(i, k int) (poly, bool) { return timesNumber(m[i][k], -1), true })
		wantMatrix(t, callOfMatrices("MatrixLess", zero, m), got, ok, want)
	}
}

func TestPromise60Examples(t *testing.T) {
	for _, x := range []struct {
		a, b, want matrix
	}{
		{ofNumbers(1, 5), ofNumbers(1, 7), ofNumbers(1, -2)}, {ofNumbers(3, 1, 2, 3), ofNumbers(3, 3, 2, 1), ofNumbers(3, -2, 0, 2)}, {ofNumbers(1, 1, 2, 3), ofNumbers(1, 3, 2, 1), ofNumbers(1, -2, 0, 2)}, {ofNumbers(2, 1, 2, 3, 4), ofNumbers(2, 0, 2, -3, 5), ofNumbers(2, 1, 0, 6, -1)},
		{ofNumbers(2, billion, -billion), ofNumbers(2, 1, -1), ofNumbers(2, billion-1, 1-billion)}, {ofNumbers(2, 0, 1), ofNumbers(2, billion, 1-billion), ofNumbers(2, -billion, billion)}, {inColumns(1, polyWith(1, 1, 2)), inColumns(1, polyWith(-1, 5, 0, 1)), inColumns(1, polyWith(-1, -5, 0, 0, 2))}, {inColumns(1, number(1)), inColumns(1, polyWith(199, 1)), inColumns(1, ends(0, 200, 1, -1))}, {inColumns(1, polyWith(300, 1, 1)), inColumns(1, polyWith(300, 1)), nil},
	} {
		got, ok := impl.MatrixLess(x.a, x.b)
		wantMatrixIf(t, callOfMatrices("MatrixLess", x.a, x.b), got, ok, x.want, x.want != nil)
		wantDifference(t, x.a, x.b)
	}
}

// A difference leaves the limits in one place.
func TestPromise60Failures(t *testing.T) {
	for _, pair := range [][2]poly{
		{number(billion), number(-1)}, {number(-billion), number(1)}, {number(1), number(-billion)}, {number(500000001), number(-500000000)}, {number(billion), number(-billion)}, {number(1), polyWith(200, 1)}, {polyWith(-200, 1), number(-1)}, {polyWith(-300, 1), polyWith(300, 1)}, {polyWith(300, 1, 1), polyWith(300, 1)}, {polyWith(300, 1), polyWith(300, 1, -1)}, {spread(0, 200, 1), polyWith(200, 1)}, {polyWith(0, 1, billion, 1), polyWith(1, -1)},
	} {
		eachSize(func(rows, columns int) {
			for i := range rows {
				for k := range columns {
					m := scattered(rows, columns, 5, smallEntries())
					a, b := with(m, i, k, pair[0]), with(m, i, k, pair[1])
					got, ok := impl.MatrixLess(a, b)
					wantNoMatrix(t, callOfMatrices("MatrixLess", a, b), got, ok)
				}
			}
		})
	}
}

func TestPromise60Sizes(t *testing.T) {
	for _, a := range someMatrices() {
		for _, b := range someMatrices() {
			if len(a) != len(b) || len(a[0]) != len(b[0]) {
				got, ok := impl.MatrixLess(a, b)
				wantNoMatrix(t, callOfMatrices("MatrixLess", a, b), got, ok)
			}
		}
	}
}

func TestPromise60Invalid(t *testing.T) {
	wantBothMatrices(t, "MatrixLess", impl.MatrixLess)
}

// Promise 61: If MatrixFlip succeeds, it leads back, and has the same determinant, if both are told.

func TestPromise61Matrices(t *testing.T) {
	told := map[int]int{}
	for _, m := range allMatrices() {
		call := callOfMatrices("MatrixFlip", m)
		got, ok := impl.MatrixFlip(m)
		wantMatrix(t, call, got, ok, flipSlowly(m))
		back, ok := impl.MatrixFlip(got)
		wantMatrix(t, call+", flipped,", back, ok, m)
		det, ok := impl.MatrixDet(m)
		flipped, also := impl.MatrixDet(got)
		if ok && also {
			told[len(m)]++
			wantPoly(t, "the determinant of "+call, flipped, also, det)
		}
	}
	for n := 1; n <= 4; n++ {
		if told[n] < 10 {
			t.Errorf("only %d determinants of %d rows were told", told[n], n)
		}
	}
}

func TestPromise61Examples(t *testing.T) {
	for _, x := range [][2]matrix{
		{ofNumbers(1, 7), ofNumbers(1, 7)}, {ofNumbers(2, 1, 2), ofNumbers(1, 1, 2)}, {ofNumbers(4, 1, 2, 3, 4), ofNumbers(1, 1, 2, 3, 4)}, {ofNumbers(2, 1, 2, 3, 4), ofNumbers(2, 1, 3, 2, 4)}, {ofNumbers(3, 1, 2, 3, 4, 5, 6), ofNumbers(2, 1, 4, 2, 5, 3, 6)}, {ofNumbers(3, 1, 2, 3, 4, 5, 6, 7, 8, 9, 10, 11, 12), ofNumbers(4, 1, 4, 7, 10, 2, 5, 8, 11, 3, 6, 9, 12)},
		{ofNumbers(4, 1, 2, 3, 4, 5, 6, 7, 8, 9, 10, 11, 12, 13, 14, 15, 16), ofNumbers(4, 1, 5, 9, 13, 2, 6, 10, 14, 3, 7, 11, 15, 4, 8, 12, 16)}, {inColumns(2, polyWith(300, 1), polyWith(-300, 2), poly{}, spread(0, 200, billion)), inColumns(2, polyWith(300, 1), poly{}, polyWith(-300, 2), spread(0, 200, billion))},
	} {
		got, ok := impl.MatrixFlip(x[0])
		wantMatrix(t, callOfMatrices("MatrixFlip", x[0]), got, ok, x[1])
		got, ok = impl.MatrixFlip(x[1])
		wantMatrix(t, callOfMatrices("MatrixFlip", x[1]), got, ok, x[0])
	}
}

func TestPromise61Invalid(t *testing.T) {
	wantMatricesOnly(t, "MatrixFlip", impl.MatrixFlip)
}

// Promise 62: If MatrixCut succeeds, it has a row and a column less, and the flipped matrix cut at k and i is it flipped.

func TestPromise62Matrices(t *testing.T) {
	told := 0
	for _, m := range allMatrices() {
		for i := -2; i <= 5; i++ {
			for k := -2; k <= 5; k++ {
				call := fmt.Sprintf("%s at %d and %d", callOfMatrices("MatrixCut", m), i, k)
				got, ok := impl.MatrixCut(m, i, k)
				flipped, also := impl.MatrixCut(matrixFlip(t, m), k, i)
				if i < 0 || k < 0 || i >= len(m) || k >= len(m[0]) || len(m) == 1 || len(m[0]) == 1 {
					wantNoMatrix(t, call, got, ok)
					wantNoMatrix(t, call+", flipped,", flipped, also)
					continue
				}
				told++
				wantMatrix(t, call, got, ok, cutSlowly(m, i, k))
				wantMatrix(t, call+", flipped,", flipped, also, matrixFlip(t, got))
				if !impl.MatrixIn(got) || len(got) != len(m)-1 || len(got[0]) != len(m[0])-1 {
					t.Errorf("%s has %d rows", call, len(got))
				}
			}
		}
	}
	if told < 1000 {
		t.Errorf("only %d matrices were cut", told)
	}
}

func TestPromise62Examples(t *testing.T) {
	three := ofNumbers(3, 1, 2, 3, 4, 5, 6, 7, 8, 9)
	four := ofNumbers(4, 1, 2, 3, 4, 5, 6, 7, 8, 9, 10, 11, 12, 13, 14, 15, 16)
	wide := ofNumbers(4, 1, 2, 3, 4, 5, 6, 7, 8)
	for _, x := range []struct {
		m    matrix
		i, k int
		want matrix
	}{
		{ofNumbers(2, 1, 2, 3, 4), 0, 0, ofNumbers(1, 4)}, {ofNumbers(2, 1, 2, 3, 4), 0, 1, ofNumbers(1, 3)}, {ofNumbers(2, 1, 2, 3, 4), 1, 0, ofNumbers(1, 2)}, {ofNumbers(2, 1, 2, 3, 4), 1, 1, ofNumbers(1, 1)},
		{three, 0, 0, ofNumbers(2, 5, 6, 8, 9)}, {three, 0, 2, ofNumbers(2, 4, 5, 7, 8)}, {three, 1, 1, ofNumbers(2, 1, 3, 7, 9)}, {three, 2, 0, ofNumbers(2, 2, 3, 5, 6)}, {three, 2, 2, ofNumbers(2, 1, 2, 4, 5)}, {three, 1, 0, ofNumbers(2, 2, 3, 8, 9)},
		{four, 0, 0, ofNumbers(3, 6, 7, 8, 10, 11, 12, 14, 15, 16)}, {four, 3, 3, ofNumbers(3, 1, 2, 3, 5, 6, 7, 9, 10, 11)}, {four, 1, 2, ofNumbers(3, 1, 2, 4, 9, 10, 12, 13, 14, 16)}, {four, 3, 0, ofNumbers(3, 2, 3, 4, 6, 7, 8, 10, 11, 12)},
		{wide, 0, 0, ofNumbers(3, 6, 7, 8)}, {wide, 1, 3, ofNumbers(3, 1, 2, 3)}, {wide, 1, 1, ofNumbers(3, 1, 3, 4)}, {flipSlowly(wide), 3, 1, ofNumbers(1, 1, 2, 3)}, {flipSlowly(wide), 1, 0, ofNumbers(1, 5, 7, 8)},
		{filled(2, 2, poly{}), 0, 0, ofNumbers(1, 0)}, {inColumns(2, poly{}, poly{}, poly{}, polyWith(300, 5)), 0, 0, inColumns(1, polyWith(300, 5))},
	} {
		got, ok := impl.MatrixCut(x.m, x.i, x.k)
		wantMatrix(t, fmt.Sprintf("%s at %d and %d", callOfMatrices("MatrixCut", x.m), x.i, x.k), got, ok, x.want)
	}
}

func TestPromise62Places(t *testing.T) {
	eachSize(func(rows, columns int) {
		m := scattered(rows, columns, 6, smallEntries())
		for _, n := range []int{-1, -2, -4, 5, 6, 1 << 32, 1<<32 + 1, -1 << 32, 1 << 62, math.MaxInt, math.MaxInt - 1, math.MinInt, math.MinInt + 1} {
			for _, place := range [][2]int{{n, 0}, {0, n}, {n, columns - 1}, {rows - 1, n}, {n, n}, {rows, n}, {n, columns}} {
				got, ok := impl.MatrixCut(m, place[0], place[1])
				wantNoMatrix(t, fmt.Sprintf("%s at %d", callOfMatrices("MatrixCut", m), place), got, ok)
			}
		}
		for _, place := range [][2]int{{rows, 0}, {0, columns}, {rows, columns}, {-1, 0}, {0, -1}, {-1, -1}, {rows, -1}, {-1, columns}} {
			got, ok := impl.MatrixCut(m, place[0], place[1])
			wantNoMatrix(t, fmt.Sprintf("%s at %d", callOfMatrices("MatrixCut", m), place), got, ok)
		}
	})
}

// A matrix with only one row or only one column has nothing left.
func TestPromise62OneRow(t *testing.T) {
	for n := 1; n <= 4; n++ {
		for k := range n {
			for _, a := range []poly{{}, number(1), polyWith(-3, 1, 2)} {
				row, column := filled(1, n, a), filled(n, 1, a)
				got, ok := impl.MatrixCut(row, 0, k)
				wantNoMatrix(t, fmt.Sprintf("%s at 0 and %d", callOfMatrices("MatrixCut", row), k), got, ok)
				got, ok = impl.MatrixCut(column, k, 0)
				wantNoMatrix(t, fmt.Sprintf("%s at %d and 0", callOfMatrices("MatrixCut", column), k), got, ok)
			}
		}
	}
}

func TestPromise62Invalid(t *testing.T) {
	for _, place := range [][2]int{{0, 0}, {1, 1}, {0, 1}, {1, 0}, {3, 3}, {4, 4}, {-1, 0}, {math.MaxInt, math.MinInt}} {
		wantMatricesOnly(t, fmt.Sprintf("MatrixCut at %d", place), func(m matrix) (matrix, bool) { return impl.MatrixCut(m, place[0], place[1]) })
	}
}

// Promise 63: If MatrixDet succeeds for at least two rows, with the first two rows exchanged it is the opposite, if told: both add up to 0; with the first row in the place of the second one it is 0, if told.

// wantDet wants MatrixDet of a square matrix, or a failure, and returns whether it is told.
func wantDet(t *testing.T, m matrix) bool {
	t.Helper()
	call := callOfMatrices("MatrixDet", m)
	got, ok := impl.MatrixDet(m)
	want, told := detSlowly(m)
	wantPolyIf(t, call, got, ok, want, told)
	if told {
		wantPowers(t, call, got, ok, detOfOrders(m))
	}
	return told
}

// wantRows wants the determinants with the first two rows exchanged, and with the first one twice, if told. It returns whether both are.
func wantRows(t *testing.T, m matrix) bool {
	t.Helper()
	first, ok := impl.MatrixDet(m)
	exchanged, twice := slices.Clone(m), slices.Clone(m)
	exchanged[0], exchanged[1] = m[1], m[0]
	twice[1] = m[0]
	wantDet(t, exchanged)
	wantDet(t, twice)
	second, also := impl.MatrixDet(exchanged)
	if ok && also {
		sum, fine := impl.PolyAdd(first, second)
		wantPoly(t, callOfMatrices("MatrixDet, and exchanged, added up,", m), sum, fine, poly{})
	}
	zero, fine := impl.MatrixDet(twice)
	if ok && fine {
		wantPoly(t, callOfMatrices("MatrixDet", twice), zero, fine, poly{})
	}
	return ok && also && fine
}

func TestPromise63Matrices(t *testing.T) {
	told, failed, rows := map[int]int{}, 0, 0
	for _, m := range squareMatrices() {
		if wantDet(t, m) {
			told[len(m)]++
		} else {
			failed++
		}
		if len(m) > 1 && wantRows(t, m) {
			rows++
		}
	}
	for n := 1; n <= 4; n++ {
		if told[n] < 12 {
			t.Errorf("only %d determinants of %d rows were told", told[n], n)
		}
	}
	if failed < 15 || rows < 45 {
		t.Errorf("%d determinants failed, and %d with the first rows exchanged and equal were told", failed, rows)
	}
}

func TestPromise63Numbers(t *testing.T) {
	for _, list := range shortLists(4, -2, -1, 0, 1, 3) {
		if len(list) == 4 {
			m := ofNumbers(2, list...)
			got, ok := impl.MatrixDet(m)
			wantPoly(t, callOfMatrices("MatrixDet", m), got, ok, number(list[0]*list[3]-list[1]*list[2]))
		}
	}
	told := 0
	for n := range 300 {
		size := n%4 + 1
		for _, from := range [][]poly{smallEntries(), greatEntries(), numbers(-3, -2, -1, 0, 0, 1, 2, 5), append(numbers(0, 0, 0, 0), greatEntries()...)} {
			if m := scattered(size, size, 100+n, from); wantDet(t, m) && size > 1 && wantRows(t, m) {
				told++
			}
		}
	}
	if told < 300 {
		t.Errorf("only %d determinants were told", told)
	}
}

func TestPromise63Examples(t *testing.T) {
	power := polyWith(1, 1)
	for _, x := range []struct {
		m    matrix
		want poly
	}{
		{ofNumbers(1, 0), poly{}}, {ofNumbers(1, -5), number(-5)}, {inColumns(1, polyWith(300, billion, -1)), polyWith(300, billion, -1)}, {inColumns(1, spread(-300, 200, -billion)), spread(-300, 200, -billion)},
		{ofNumbers(2, 1, 2, 3, 4), number(-2)}, {ofNumbers(2, 0, 1, 1, 0), number(-1)}, {ofNumbers(2, 0, -1, 1, 0), number(1)}, {ofNumbers(2, 3, 5, 3, 5), poly{}}, {ofNumbers(2, 0, 0, 3, 5), poly{}}, {ofNumbers(2, 3, 5, 0, 0), poly{}}, {inColumns(2, power, number(1), number(1), power), polyWith(0, -1, 0, 1)}, {inColumns(2, polyWith(0, 1, -1), power, polyWith(-1, 1), number(1)), polyWith(1, -1)},
		{ofNumbers(3, 1, 2, 3, 4, 5, 6, 7, 8, 9), poly{}}, {ofNumbers(3, 2, -1, 0, -1, 2, -1, 0, -1, 2), number(4)}, {ofNumbers(3, 0, 1, 0, 0, 0, 1, 1, 0, 0), number(1)}, {ofNumbers(3, 0, 0, 1, 0, 1, 0, 1, 0, 0), number(-1)}, {ofNumbers(3, 1, 2, 3, 1, 2, 3, 4, 5, 6), poly{}}, {ofNumbers(3, 1, 2, 3, 4, 5, 6, 1, 2, 3), poly{}}, {ofNumbers(3, 4, 5, 6, 1, 2, 3, 1, 2, 3), poly{}}, {ofNumbers(3, 0, 0, 0, 1, 2, 3, 4, 5, 7), poly{}}, {ofNumbers(3, 1, 2, 3, 0, 0, 0, 4, 5, 7), poly{}}, {ofNumbers(3, 1, 2, 3, 4, 5, 7, 0, 0, 0), poly{}}, {ofNumbers(3, 2, 3, 5, 0, 7, 11, 0, 0, 13), number(182)}, {ofNumbers(3, 0, 0, large, 0, 1, 1, 1, 0, large), number(-large)},
		{inColumns(3, power, number(1), poly{}, poly{}, power, number(1), number(1), poly{}, power), polyWith(0, 1, 0, 0, 1)},
		{ofNumbers(4, 0, 1, 0, 0, 0, 0, 1, 0, 0, 0, 0, 1, 1, 0, 0, 0), number(-1)}, {ofNumbers(4, 0, 0, 0, 1, 0, 0, 1, 0, 0, 1, 0, 0, 1, 0, 0, 0), number(1)}, {ofNumbers(4, 2, -1, 0, 0, -1, 2, -1, 0, 0, -1, 2, -1, 0, 0, -1, 2), number(5)}, {ofNumbers(4, 1, 1, 1, 1, 1, 2, 4, 8, 1, 3, 9, 27, 1, 4, 16, 64), number(12)}, {ofNumbers(4, 1, 2, 3, 4, 5, 6, 7, 8, 1, 2, 3, 4, 9, 1, 5, 2), poly{}}, {ofNumbers(4, 1, 2, 3, 4, 5, 6, 7, 8, 0, 0, 0, 0, 9, 1, 5, 2), poly{}}, {ofNumbers(4, 0, 0, 0, 0, 1, 2, 3, 4, 5, 6, 7, 9, 9, 1, 5, 2), poly{}},
		{inColumns(4, power, number(1), poly{}, poly{}, poly{}, power, number(1), poly{}, poly{}, poly{}, power, number(1), number(1), poly{}, poly{}, power), polyWith(0, -1, 0, 0, 0, 1)},
		{ofNumbers(2, billion, 0, 0, 1), number(billion)}, {ofNumbers(2, 31622, 0, 0, 31622), number(31622 * 31622)}, {ofNumbers(2, 0, billion, -1, 0), number(billion)}, {ofNumbers(3, 1000, 0, 0, 0, 1000, 0, 0, 0, 1000), number(billion)}, {ofNumbers(4, 100, 0, 0, 0, 0, 100, 0, 0, 0, 0, 100, 0, 0, 0, 0, 1000), number(billion)}, {inColumns(2, polyWith(300, 1), number(1), number(1), polyWith(-300, 1)), poly{}}, {inColumns(2, spread(0, 100, 1), poly{}, number(5), ends(0, 101, 1, 1)), spread(0, 200, 1)},
	} {
		got, ok := impl.MatrixDet(x.m)
		wantPoly(t, callOfMatrices("MatrixDet", x.m), got, ok, x.want)
		wantDet(t, x.m)
	}
}

// A polynomial on the way is none, though all of them together would be a polynomial.
func TestPromise63Failures(t *testing.T) {
	const x, b = large, billion
	minus := polyWith(0, 1, -1)
	for _, m := range []matrix{
		// Products that are none, also where they cancel, or beside equal rows and rows of 0.
		ofNumbers(2, x, x, x, x), ofNumbers(2, x, 0, 0, x), ofNumbers(2, 0, x, x, 0), ofNumbers(2, 0, b, 2, 0), ofNumbers(2, b, 0, 0, -2), inColumns(2, polyWith(300, 1), number(1), number(1), polyWith(1, 1)), inColumns(2, polyWith(300, 1), polyWith(300, 1), polyWith(1, 1), polyWith(1, 1)), inColumns(2, spread(0, 101, 1), poly{}, poly{}, spread(0, 101, 1)), inColumns(2, ends(0, 200, 1, 1), ends(0, 200, 1, 1), minus, minus),
		ofNumbers(3, 1, 0, 0, 0, x, x, 0, x, x), ofNumbers(3, 1, 1, 1, x, x, x, x, x, x), ofNumbers(3, x, x, 1, x, x, 1, x, x, 1), ofNumbers(3, x, 0, 0, 0, x, 0, 0, 0, 1), ofNumbers(4, x, 0, 0, 0, 0, x, 0, 0, 0, 0, 1, 0, 0, 0, 0, 1),
		// Determinants that are none beside 0 in the first row.
		ofNumbers(3, 0, 0, 1, 1, 0, x, 0, x, 0), ofNumbers(3, 0, 0, 1, x, 0, 0, 0, 1, x), ofNumbers(3, 1, 0, 0, x, 0, 1, 0, x, 0), ofNumbers(3, 0, 0, 1, 0, x, x, 0, x, x), ofNumbers(3, 0, 0, 0, 0, x, x, 0, x, x), ofNumbers(3, 0, 0, 0, x, 0, 0, 0, x, 0), ofNumbers(3, 1, 0, 0, b, 1, 0, 0, 0, 2), ofNumbers(3, 0, x, x, 0, x, x, 0, x, x), inColumns(3, number(1), poly{}, poly{}, polyWith(300, 1), number(1), poly{}, poly{}, poly{}, polyWith(1, 1)),
		ofNumbers(3, 0, 1, 0, 0, b, 1, 0, -1, 1), ofNumbers(3, 0, 0, 0, 0, b, 1, 0, -1, 1), ofNumbers(3, 0, 0, 0, b, 1, 0, -1, 1, 0), ofNumbers(3, 0, 0, 0, b, 0, 1, -1, 0, 1),
		ofNumbers(4, 0, 0, 0, 0, 0, 0, 0, 0, 0, 0, x, x, 0, 0, x, x), ofNumbers(4, 0, 0, 0, 0, 0, 0, 0, 0, x, 0, 0, x, x, 0, 0, x), ofNumbers(4, 0, 0, 0, 1, 1, 0, 0, 0, 0, 1, 0, x, 0, 0, x, 0), ofNumbers(4, 1, 0, 0, 0, x, 1, 0, 0, 0, 0, 1, 0, 0, 0, 0, x), ofNumbers(4, 0, 0, 0, 0, x, 0, 0, 0, 0, x, 0, 0, 0, 0, 1, 1), ofNumbers(4, 1, 0, 0, 0, 0, 1, 0, 0, x, 0, 0, 1, 0, x, 0, 0),
	} {
		got, ok := impl.MatrixDet(m)
		wantNoPoly(t, callOfMatrices("MatrixDet", m), got, ok)
	}
}

// Along another row, or a column, something on the way is none: the determinant is told, and that of the flipped matrix is not.
func TestPromise63FirstRow(t *testing.T) {
	const x, b = large, billion
	for _, c := range []struct {
		m    matrix
		want poly
	}{
		{ofNumbers(3, 1, b, 0, 0, 1, 0, 0, 0, 2), number(2)}, {ofNumbers(3, 1, x, x, 0, 1, x, 0, 0, 1), number(1)}, {ofNumbers(3, x, x, x, 0, 0, 0, x, x, x), poly{}}, {ofNumbers(3, x, x, x, x, x, x, 0, 0, 0), poly{}}, {ofNumbers(3, x, x, x, x, x, x, 1, 1, 1), poly{}},
		{ofNumbers(4, 1, b, b, b, 0, 1, 0, 0, 0, 0, 2, 0, 0, 0, 0, 3), number(6)}, {ofNumbers(4, x, x, x, x, x, x, x, x, 0, 0, 0, 0, 1, 2, 3, 4), poly{}}, {ofNumbers(4, b, b, b, b, b, b, b, b, b, b, b, b, 0, 0, 0, 0), poly{}},
	} {
		got, ok := impl.MatrixDet(c.m)
		wantPoly(t, callOfMatrices("MatrixDet", c.m), got, ok, c.want)
		flipped := matrixFlip(t, c.m)
		got, ok = impl.MatrixDet(flipped)
		wantNoPoly(t, callOfMatrices("MatrixDet", flipped), got, ok)
	}
}

func TestPromise63InTurn(t *testing.T) {
	below := [][]int{{}, {-1, 1}, {1, -1, 0, 0, 1, -1}, {-1, 1, 0, 0, 0, 1, -1, 0, 0, 0, 1, -1}}
	wantInTurn(t, "MatrixDet", 4, func(parts []poly) (poly, bool) {
		n := len(parts)
		return impl.MatrixDet(inColumns(n, append(slices.Clone(parts), numbers(below[n-1]...)...)...))
	})
	// The same in the determinant that is made beside the first polynomial, with 0 in the first row elsewhere.
	for _, first := range numbers(1, 0) {
		wantInTurn(t, "MatrixDet in the determinant beside "+briefPoly(first), 3, func(parts []poly) (poly, bool) {
			n := len(parts)
			m := with(filled(n+1, n+1, poly{}), 0, 0, first)
			for k, a := range append(slices.Clone(parts), numbers(below[n-1]...)...) {
				m[1+k/n][1+k%n] = a
			}
			got, ok := impl.MatrixDet(m)
			if ok && len(first.Coefs) == 0 {
				// It is made beside 0, too, and then left out.
				wantPoly(t, callOfMatrices("MatrixDet", m), got, ok, poly{})
				return addedSlowly(powersOfAll(parts)...)
			}
			return got, ok
		})
	}
}

func TestPromise63Invalid(t *testing.T) {
	wantSquaresOnly(t, "MatrixDet", impl.MatrixDet)
	eachSize(func(rows, columns int) {
		for _, a := range []poly{{}, number(1)} {
			if m := filled(rows, columns, a); rows != columns {
				got, ok := impl.MatrixDet(m)
				wantNoPoly(t, callOfMatrices("MatrixDet", m), got, ok)
			}
		}
	})
}

// Promise 64: If MatrixTrace succeeds, that of the flipped matrix is the same.

func TestPromise64Matrices(t *testing.T) {
	told, failed := map[int]int{}, 0
	for _, m := range squareMatrices() {
		got, ok := impl.MatrixTrace(m)
		want, fine := traceSlowly(m)
		wantPolyIf(t, callOfMatrices("MatrixTrace", m), got, ok, want, fine)
		flipped, also := impl.MatrixTrace(matrixFlip(t, m))
		if ok != also || !samePoly(flipped, got) {
			t.Errorf("%s is %s, and flipped %s", callOfMatrices("MatrixTrace", m), briefPoly(got), briefPoly(flipped))
		}
		if ok {
			told[len(m)]++
		} else {
			failed++
		}
	}
	for n := 1; n <= 4; n++ {
		if told[n] < 12 {
			t.Errorf("only %d traces of %d rows were told", told[n], n)
		}
	}
	if failed < 5 {
		t.Errorf("only %d traces failed", failed)
	}
}

func TestPromise64Examples(t *testing.T) {
	for _, x := range []struct {
		m    matrix
		want poly
	}{
		{ofNumbers(1, 0), poly{}}, {ofNumbers(1, -5), number(-5)}, {inColumns(1, polyWith(-300, 1, 2)), polyWith(-300, 1, 2)}, {inColumns(1, spread(300, 200, billion)), spread(300, 200, billion)}, {ofNumbers(2, 1, 2, 3, 4), number(5)}, {ofNumbers(2, 1, 2, 3, -1), poly{}}, {ofNumbers(2, 0, billion, billion, 0), poly{}}, {inColumns(2, polyWith(1, 1), number(1), number(1), polyWith(-1, 1)), polyWith(-1, 1, 0, 1)},
		{ofNumbers(3, 1, 2, 3, 4, 5, 6, 7, 8, 9), number(15)}, {ofNumbers(3, 0, 2, 3, 4, 0, 6, 7, 8, 0), poly{}}, {ofNumbers(4, 1, 2, 3, 4, 5, 6, 7, 8, 9, 10, 11, 12, 13, 14, 15, 16), number(34)}, {ofNumbers(4, 0, billion, billion, 4, 5, 0, 7, billion, 9, 10, 0, 12, billion, 14, 15, 7), number(7)},
	} {
		got, ok := impl.MatrixTrace(x.m)
		wantPoly(t, callOfMatrices("MatrixTrace", x.m), got, ok, x.want)
		got, ok = impl.MatrixTrace(matrixFlip(t, x.m))
		wantPoly(t, callOfMatrices("MatrixTrace, flipped,", x.m), got, ok, x.want)
	}
}

func TestPromise64InTurn(t *testing.T) {
	for _, other := range []poly{{}, number(1), number(billion), polyWith(300, -1)} {
		wantInTurn(t, "MatrixTrace", 4, func(parts []poly) (poly, bool) {
			m := filled(len(parts), len(parts), other)
			for i, a := range parts {
				m[i][i] = a
			}
			return impl.MatrixTrace(m)
		})
	}
}

func TestPromise64Invalid(t *testing.T) {
	wantSquaresOnly(t, "MatrixTrace", impl.MatrixTrace)
}

// The general rules: results have memory of their own, arguments are left, and nothing is kept.

// mustMatrix returns what a function made, also where it failed.
func mustMatrix(m matrix, _ bool) matrix {
	return m
}

// alone returns a polynomial as the only one of a matrix, also where a function failed.
func alone(a poly, _ bool) matrix {
	return matrix{{a}}
}

func TestMatricesMemory(t *testing.T) {
	list := append(someMatrices(), allMatrices()[:30]...)
	none := []matrix{nil}
	wantOwnMatrices(t, "MatrixTimes", list, list, func(a, b matrix) matrix { return mustMatrix(impl.MatrixTimes(a, b)) })
	wantOwnMatrices(t, "MatrixLess", list, list, func(a, b matrix) matrix { return mustMatrix(impl.MatrixLess(a, b)) })
	wantOwnMatrices(t, "MatrixFlip", allMatrices(), none, func(a, b matrix) matrix { return mustMatrix(impl.MatrixFlip(a)) })
	for i := range 4 {
		for k := range 4 {
			wantOwnMatrices(t, "MatrixCut", list, none, func(a, b matrix) matrix { return mustMatrix(impl.MatrixCut(a, i, k)) })
		}
	}
	wantOwnMatrices(t, "MatrixDet", allMatrices(), none, func(a, b matrix) matrix { return alone(impl.MatrixDet(a)) })
	wantOwnMatrices(t, "MatrixTrace", allMatrices(), none, func(a, b matrix) matrix { return alone(impl.MatrixTrace(a)) })
	for n := 1; n <= 4; n++ {
		wantOwnMatrices(t, "MatrixOne", none, none, func(a, b matrix) matrix { return mustMatrix(impl.MatrixOne(n)) })
	}
	wantOwnMatrices(t, "MatrixIn", append(list, noSizes()[:30]...), none, func(a, b matrix) matrix {
		impl.MatrixIn(a)
		return ofNumbers(1, 1)
	})
}

// The rows of these matrices share memory, and so do their polynomials: those of the results must not.
func TestMatricesSharedArguments(t *testing.T) {
	for _, a := range []poly{number(2), polyWith(-1, 1, -3, 1)} {
		for n := 1; n <= 4; n++ {
			row := slices.Repeat([]poly{a}, n)
			m := slices.Repeat(matrix{row}, n)
			kept := fmt.Sprint(m)
			for call, result := range map[string]matrix{
				"MatrixTimes": mustMatrix(impl.MatrixTimes(m, m)), "MatrixTimes and 1": mustMatrix(impl.MatrixTimes(m, matrixOne(t, n))), "MatrixLess": mustMatrix(impl.MatrixLess(m, filled(n, n, poly{}))), "MatrixFlip": mustMatrix(impl.MatrixFlip(m)), "MatrixCut": mustMatrix(impl.MatrixCut(m, 0, 0)), "MatrixDet": alone(impl.MatrixDet(m)), "MatrixTrace": alone(impl.MatrixTrace(m)), "MatrixFlip of one row": mustMatrix(impl.MatrixFlip(m[:1])),
			} {
				wantOwnPlaces(t, callOfMatrices(call, m), result)
				if fmt.Sprint(m) != kept {
					t.Fatalf("%s changes it, or its result shares memory with it", callOfMatrices(call, m))
				}
			}
		}
	}
}

func TestMatricesKeepNoState(t *testing.T) {
	m, bad := ofNumbers(2, 1, 2, 3, 4), inColumns(2, number(1), number(2), number(3), polyWith(0, 0))
	for range 3 {
		got, ok := impl.MatrixTimes(m, m)
		wantMatrix(t, "MatrixTimes", got, ok, ofNumbers(2, 7, 10, 15, 22))
		got, ok = impl.MatrixTimes(m, bad)
		wantNoMatrix(t, "MatrixTimes", got, ok)
		got, ok = impl.MatrixLess(m, ofNumbers(2, 1, 1, 1, 1))
		wantMatrix(t, "MatrixLess", got, ok, ofNumbers(2, 0, 1, 2, 3))
		got, ok = impl.MatrixFlip(m)
		wantMatrix(t, "MatrixFlip", got, ok, ofNumbers(2, 1, 3, 2, 4))
		got, ok = impl.MatrixFlip(bad)
		wantNoMatrix(t, "MatrixFlip", got, ok)
		got, ok = impl.MatrixCut(m, 0, 1)
		wantMatrix(t, "MatrixCut", got, ok, ofNumbers(1, 3))
		got, ok = impl.MatrixOne(2)
		wantMatrix(t, "MatrixOne", got, ok, ofNumbers(2, 1, 0, 0, 1))
		det, ok := impl.MatrixDet(m)
		wantPoly(t, "MatrixDet", det, ok, number(-2))
		det, ok = impl.MatrixDet(bad)
		wantNoPoly(t, "MatrixDet", det, ok)
		trace, ok := impl.MatrixTrace(m)
		wantPoly(t, "MatrixTrace", trace, ok, number(5))
		if !impl.MatrixIn(m) || impl.MatrixIn(bad) {
			t.Error("MatrixIn is not the same each time")
		}
	}
}
