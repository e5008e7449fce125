package tests

import (
	"fmt"
	"math/big"
	"slices"
	"strings"
	"testing"
)

type matrix = [][]poly

// large is a number whose square is beyond the limit.
const large = 100000

func number(n int) poly {
	if n == 0 {
		return poly{}
	}
	return polyWith(0, n)
}

func numbers(list ...int) []poly {
	var polys []poly
	for _, n := range list {
		polys = append(polys, number(n))
	}
	return polys
}

// inColumns returns the matrix with polynomials, row by row, in so many columns.
func inColumns(columns int, polys ...poly) matrix {
	return slices.Collect(slices.Chunk(polys, columns))
}

// ofNumbers returns the matrix with numbers, row by row, in so many columns.
func ofNumbers(columns int, list ...int) matrix {
	return inColumns(columns, numbers(list...)...)
}

// matrixWith returns the matrix with so many rows and columns whose polynomials a function tells, and whether it tells all of them.
func matrixWith(rows, columns int, at func(i, k int) (poly, bool)) (matrix, bool) {
	m := make(matrix, rows)
	for i := range m {
		for k := range columns {
			a, told := at(i, k)
			if !told {
				return nil, false
			}
			m[i] = append(m[i], a)
		}
	}
	return m, true
}

// filled returns the matrix with so many rows and columns that has the same polynomial everywhere.
func filled(rows, columns int, a poly) matrix {
	m, _ := matrixWith(rows, columns, func(i, k int) (poly, bool) { return a, true })
	return m
}

// with returns the matrix with another polynomial in one place.
func with(m matrix, i, k int, a poly) matrix {
	m = slices.Clone(m)
	m[i] = slices.Clone(m[i])
	m[i][k] = a
	return m
}

func sameMatrix(a, b matrix) bool {
	return slices.EqualFunc(a, b, func(x, y []poly) bool { return slices.EqualFunc(x, y, samePoly) })
}

// isMatrixSlowly reports whether a list is a matrix.
func isMatrixSlowly(m matrix) bool {
	for _, row := range m {
		if len(row) < 1 || len(row) > 4 || len(row) != len(m[0]) || slices.ContainsFunc(row, func(a poly) bool { return !isPolySlowly(a) }) {
			return false
		}
	}
	return len(m) >= 1 && len(m) <= 4
}

// addedSlowly adds parts up from the first one on. It also returns whether all parts, and what is added up on the way, are told.
func addedSlowly(parts ...powersOfT) (poly, bool) {
	sum := poly{}
	for _, part := range parts {
		a, told := part.told()
		if !told {
			return poly{}, false
		}
		if sum, told = polySumSlowly(sum, a).told(); !told {
			return poly{}, false
		}
	}
	return sum, true
}

func matrixProductSlowly(a, b matrix) (matrix, bool) {
	if len(a[0]) != len(b) {
		return nil, false
	}
	return matrixWith(len(a), len(b[0]), func(i, k int) (poly, bool) {
		var parts []powersOfT
		for n := range b {
			parts = append(parts, polyProductSlowly(a[i][n], b[n][k]))
		}
		return addedSlowly(parts...)
	})
}

func lessSlowly(a, b matrix) (matrix, bool) {
	if len(a) != len(b) || len(a[0]) != len(b[0]) {
		return nil, false
	}
	return matrixWith(len(a), len(a[0]), func(i, k int) (poly, bool) {
		return polySumSlowly(a[i][k], timesNumber(b[i][k], -1)).told()
	})
}

func flipSlowly(m matrix) matrix {
	flip, _ := matrixWith(len(m[0]), len(m), func(i, k int) (poly, bool) { return m[k][i], true })
	return flip
}

// cutSlowly returns the matrix without a row and a column.
func cutSlowly(m matrix, i, k int) matrix {
	var rows matrix
	for n, row := range m {
		if n != i {
			rows = append(rows, slices.Delete(slices.Clone(row), k, k+1))
		}
	}
	return rows
}

// detSlowly returns the determinant of a square matrix, made in the order that the document tells, and whether all on the way is told.
func detSlowly(m matrix) (poly, bool) {
	if len(m) == 1 {
		return m[0][0], true
	}
	var parts []powersOfT
	for k, a := range m[0] {
		minor, told := detSlowly(cutSlowly(m, 0, k))
		if !told {
			return poly{}, false
		}
		if k%2 == 1 {
			minor = timesNumber(minor, -1)
		}
		parts = append(parts, polyProductSlowly(a, minor))
	}
	return addedSlowly(parts...)
}

// addTimes adds other powers times a number.
func (p powersOfT) addTimes(other powersOfT, n int64) {
	for power, coef := range other {
		p.add(power, new(big.Int).Mul(coef, big.NewInt(n)))
	}
}

// detOfOrders returns the determinant of a square matrix of any size: the sum, over all orders of the columns, of the product of a polynomial of each row, with the sign of the order.
func detOfOrders(m matrix) powersOfT {
	sum := powersOfT{}
	var choose func(columns []int, product powersOfT, sign int64)
	choose = func(columns []int, product powersOfT, sign int64) {
		if len(columns) == len(m) {
			sum.addTimes(product, sign)
			return
		}
		for k := range m {
			if slices.Contains(columns, k) {
				continue
			}
			turned := sign
			for _, c := range columns {
				if c > k {
					turned = -turned
				}
			}
			choose(append(slices.Clone(columns), k), product.times(m[len(columns)][k]), turned)
		}
	}
	choose(nil, powersOf(number(1)), 1)
	return sum
}

func powersOfAll(list []poly) []powersOfT {
	var all []powersOfT
	for _, a := range list {
		all = append(all, powersOf(a))
	}
	return all
}

func traceSlowly(m matrix) (poly, bool) {
	var parts []poly
	for i := range m {
		parts = append(parts, m[i][i])
	}
	return addedSlowly(powersOfAll(parts)...)
}

// smallEntries returns polynomials of which matrices are made that do not meet the limits.
func smallEntries() []poly {
	return []poly{{}, number(1), number(-1), polyWith(1, 1), polyWith(-1, -1), polyWith(0, 1, -1), polyWith(-1, 1, -3, 1), number(2), polyWith(2, -3), polyWith(0, 2, 0, 5), {}, polyWith(-7, 1, 1)}
}

// greatEntries returns polynomials of which matrices are made that meet the limits.
func greatEntries() []poly {
	return []poly{{}, number(1), number(-1), number(billion), number(-billion), number(31622), number(31623), number(-large), {}, number(500000000), polyWith(300, 1), polyWith(-300, -1), polyWith(150, 1, 1), spread(0, 101, 1), ends(0, 200, 1, -1), ends(-50, 101, 1, 1), {}, polyWith(0, 1, -1), number(1)}
}

// scattered returns a matrix of some polynomials, others for each number.
func scattered(rows, columns, n int, from []poly) matrix {
	state := uint32(n*1000 + rows*10 + columns)
	m, _ := matrixWith(rows, columns, func(i, k int) (poly, bool) {
		state = state*1664525 + 1013904223
		return from[int(state>>8)%len(from)], true
	})
	return m
}

// sparse returns a matrix that has only one polynomial other than 0 in each of its first rows and columns.
func sparse(rows, columns int, a poly) matrix {
	m := filled(rows, columns, poly{})
	for i := range min(rows, columns) {
		m = with(m, i, (i+1)%columns, a)
	}
	return m
}

// smallMatrices returns matrices of a size that do not meet the limits: 0, with equal rows, with a row and with a column of 0 among them.
func smallMatrices(rows, columns int) []matrix {
	list := []matrix{filled(rows, columns, poly{}), filled(rows, columns, polyWith(0, 1, 1)), sparse(rows, columns, polyWith(-1, 2))}
	for n := range 8 {
		list = append(list, scattered(rows, columns, n, smallEntries()))
	}
	withoutRow, withoutColumn := slices.Clone(list[3]), list[4]
	withoutRow[rows/2] = make([]poly, columns)
	for i := range rows {
		withoutColumn = with(withoutColumn, i, columns/2, poly{})
	}
	equal := slices.Clone(list[5])
	equal[0] = equal[rows-1]
	return append(list, withoutRow, withoutColumn, equal)
}

// greatMatrices returns matrices of a size that meet the limits.
func greatMatrices(rows, columns int) []matrix {
	list := []matrix{filled(rows, columns, number(billion)), filled(rows, columns, number(large)), sparse(rows, columns, number(-billion)), sparse(rows, columns, polyWith(300, 1)), sparse(rows, columns, spread(0, 200, billion))}
	for n := range 8 {
		list = append(list, scattered(rows, columns, n, greatEntries()))
	}
	return list
}

// eachSize calls f with all numbers of rows and columns that a matrix may have.
func eachSize(f func(rows, columns int)) {
	for rows := 1; rows <= 4; rows++ {
		for columns := 1; columns <= 4; columns++ {
			f(rows, columns)
		}
	}
}

// matricesOf returns matrices of a size.
func matricesOf(rows, columns int) []matrix {
	return append(smallMatrices(rows, columns), greatMatrices(rows, columns)...)
}

func allMatrices() []matrix {
	var list []matrix
	eachSize(func(rows, columns int) { list = append(list, matricesOf(rows, columns)...) })
	return list
}

// someMatrices returns a few matrices of each size.
func someMatrices() []matrix {
	var list []matrix
	eachSize(func(rows, columns int) {
		list = append(list, scattered(rows, columns, 1, smallEntries()), scattered(rows, columns, 2, smallEntries()), scattered(rows, columns, 3, greatEntries()))
	})
	return list
}

func squareMatrices() []matrix {
	return slices.DeleteFunc(allMatrices(), func(m matrix) bool { return len(m) != len(m[0]) })
}

// notSquare returns matrices that have not as many rows as columns.
func notSquare() []matrix {
	return slices.DeleteFunc(someMatrices(), func(m matrix) bool { return len(m) == len(m[0]) })
}

// noSizes returns lists that are no matrices as they have no rows, none of the right length, or too many.
func noSizes() []matrix {
	row := func(n int) []poly { return slices.Repeat(numbers(1), n) }
	lists := []matrix{
		nil, {}, {nil}, {{}}, {{}, {}}, {nil, nil, nil, nil}, {nil, nil, nil, nil, nil}, {row(1), nil}, {nil, row(1)}, {row(1), {}}, {{}, row(1)}, {row(2), row(2), nil}, {nil, row(2), row(2)}, {row(3), nil, row(3)}, {row(4), row(4), row(4), nil}, {row(4), row(4), row(4), row(4), nil},
		{row(2), row(1)}, {row(1), row(2)}, {row(2), row(3)}, {row(2), row(2), row(1)}, {row(1), row(2), row(2)}, {row(3), row(2), row(3)}, {row(1), row(1), row(1), row(2)}, {row(4), row(4), row(4), row(3)}, {row(4), row(4), row(4), row(5)}, {row(3), row(4), row(4), row(4)}, {row(5), row(4), row(4), row(4)}, {row(4), row(5)}, {row(5), row(4)}, {row(1), row(1000000)},
		slices.Repeat(matrix{row(1)}, 1000000), {row(1000000)}, slices.Repeat(matrix{nil}, 1000000),
	}
	for _, size := range [][2]int{{5, 1}, {5, 4}, {5, 5}, {4, 5}, {1, 5}, {2, 5}, {3, 6}, {6, 3}, {8, 8}, {1, 100}, {100, 1}, {256, 1}, {1, 257}, {257, 257}} {
		lists = append(lists, filled(size[0], size[1], number(1)), filled(size[0], size[1], poly{}))
	}
	return lists
}

// fewNoPolys returns some polynomials that are not as told.
func fewNoPolys() []poly {
	return []poly{polyWith(0, 0), polyWith(1), polyWith(0, 1, 0), polyWith(0, 0, 1), polyWith(0, billion+1), polyWith(0, 1, -billion-1, 1), polyWith(301, 1), polyWith(-301, 1), spread(0, 201, 1)}
}

// noMatrices returns lists that are no matrices.
func noMatrices() []matrix {
	lists := noSizes()
	for _, a := range noPolys() {
		lists = append(lists, matrix{{a}}, matrix{numbers(1, 2), {number(3), a}})
	}
	eachSize(func(rows, columns int) {
		for n, a := range fewNoPolys() {
			m := scattered(rows, columns, n, smallEntries())
			for i := range rows {
				for k := range columns {
					lists = append(lists, with(m, i, k, a))
				}
			}
		}
	})
	return lists
}

// inTurn are parts of which some sums are told only if they are made in the right order.
type inTurn struct {
	parts []poly
	want  poly
	told  bool
}

// sumsInTurn returns parts whose sum is to be made from the first one on.
func sumsInTurn() []inTurn {
	const b = billion
	t300, t301, both := polyWith(300, 1), polyWith(300, -1), polyWith(300, 1, 1)
	list := []inTurn{
		{[]poly{{}}, poly{}, true}, {[]poly{polyWith(-2, 3, 4)}, polyWith(-2, 3, 4), true}, {[]poly{t300}, t300, true}, {[]poly{{}, {}, {}, {}}, poly{}, true},
		{[]poly{number(1), polyWith(1, 1), polyWith(2, 1), polyWith(3, 1)}, spread(0, 4, 1), true}, {[]poly{polyWith(-1, 1, 2), polyWith(-1, -1, -2)}, poly{}, true},
		{[]poly{number(1), polyWith(199, 1)}, ends(0, 200, 1, 1), true}, {[]poly{number(1), polyWith(200, 1)}, poly{}, false}, {[]poly{polyWith(200, 1), polyWith(200, -1), number(1)}, number(1), true}, {[]poly{number(1), polyWith(200, 1), polyWith(200, -1)}, poly{}, false}, {[]poly{{}, number(1), polyWith(-199, 1), polyWith(-200, 1)}, poly{}, false}, {[]poly{polyWith(200, 1), number(-1), {}, number(1)}, poly{}, false},
		{[]poly{both, t301}, poly{}, false}, {[]poly{both, t301, t300}, poly{}, false}, {[]poly{both, t300, t301}, both, true}, {[]poly{t301, t300, both}, both, true}, {[]poly{t301, both}, poly{}, false}, {[]poly{t300, {}, t301, both}, both, true}, {[]poly{t300, t300, both, t301}, polyWith(300, 2, 1), true},
	}
	for _, x := range []struct {
		parts []int
		want  int
	}{
		{[]int{b, -1}, b - 1}, {[]int{b, -b}, 0}, {[]int{-b, 0}, -b}, {[]int{b, -1, 1}, b}, {[]int{-1, b, 1}, b}, {[]int{-1, 1, b}, b}, {[]int{b, -b, b}, b}, {[]int{-b, b, b}, b}, {[]int{500000000, 500000000, -b}, 0},
		{[]int{-b, 0, b, 1}, 1}, {[]int{b, -b, b, -b}, 0}, {[]int{-1, b, 1, -b}, 0}, {[]int{b, -1, 1, -b}, 0}, {[]int{1, 2, 3, 4}, 10}, {[]int{-b, 0, b, b}, b},
	} {
		list = append(list, inTurn{numbers(x.parts...), number(x.want), true})
	}
	for _, parts := range [][]int{{b, 1}, {-b, -1}, {b, b}, {b, 1, -1}, {b, 1, -b}, {b, 0, 1, -1}, {-b, -1, 1}, {1, b, -1}, {0, b, b, -b}, {b, -1, 2, -1}, {-b, 1, -2, b}, {500000000, 500000001, -b}, {b, b, -b, -b}, {1, 2, 3, b}, {0, 0, b, 1}} {
		list = append(list, inTurn{numbers(parts...), poly{}, false})
	}
	return list
}

// wantInTurn calls f with at most so many parts whose sum is to be made from the first one on, and wants this, or a failure.
func wantInTurn(t *testing.T, call string, most int, f func(parts []poly) (poly, bool)) {
	t.Helper()
	for _, x := range sumsInTurn() {
		if len(x.parts) > most {
			continue
		}
		got, ok := f(x.parts)
		if call := callOfPolys(call+" with parts", x.parts...); x.told {
			wantPoly(t, call, got, ok, x.want)
		} else {
			wantNoPoly(t, call, got, ok)
		}
	}
}

// briefMatrix tells a matrix in not too many signs.
func briefMatrix(m matrix) string {
	var rows []string
	for _, row := range m[:min(len(m), 5)] {
		var texts []string
		for _, a := range row[:min(len(row), 5)] {
			texts = append(texts, briefPoly(a))
		}
		rows = append(rows, strings.Join(texts, ", "))
	}
	return fmt.Sprintf("{%s} (%d rows)", strings.Join(rows, "; "), len(m))
}

func callOfMatrices(name string, list ...matrix) string {
	var texts []string
	for _, m := range list {
		texts = append(texts, briefMatrix(m))
	}
	return name + " of " + strings.Join(texts, " and ")
}

func wantMatrix(t *testing.T, call string, got matrix, ok bool, want matrix) {
	t.Helper()
	if !ok || !sameMatrix(got, want) {
		t.Errorf("%s returned %s, %v, not %s", call, briefMatrix(got), ok, briefMatrix(want))
	}
}

func wantNoMatrix(t *testing.T, call string, got matrix, ok bool) {
	t.Helper()
	if ok || len(got) != 0 {
		t.Errorf("%s returned %s, %v: it must fail", call, briefMatrix(got), ok)
	}
}

// wantMatrixIf wants a matrix if it is told, and otherwise a failure.
func wantMatrixIf(t *testing.T, call string, got matrix, ok bool, want matrix, told bool) {
	t.Helper()
	if told {
		wantMatrix(t, call, got, ok, want)
	} else {
		wantNoMatrix(t, call, got, ok)
	}
}

// wantPolyIf wants a polynomial if it is told, and otherwise a failure.
func wantPolyIf(t *testing.T, call string, got poly, ok bool, want poly, told bool) {
	t.Helper()
	if told {
		wantPoly(t, call, got, ok, want)
	} else {
		wantNoPoly(t, call, got, ok)
	}
}

// wantMatricesOnly calls f with lists that are no matrices, and wants it to fail.
func wantMatricesOnly(t *testing.T, call string, f func(m matrix) (matrix, bool)) {
	t.Helper()
	for _, m := range noMatrices() {
		got, ok := f(m)
		wantNoMatrix(t, callOfMatrices(call, m), got, ok)
	}
}

// wantBothMatrices calls f with a list that is no matrix on one side and on both, and wants it to fail.
func wantBothMatrices(t *testing.T, call string, f func(a, b matrix) (matrix, bool)) {
	t.Helper()
	for _, a := range []matrix{ofNumbers(1, 1), ofNumbers(4, 1, 0, 0, 2), filled(4, 1, poly{}), filled(2, 2, polyWith(0, 1, -1)), filled(4, 4, number(1))} {
		wantMatricesOnly(t, callOfMatrices(call, a), func(b matrix) (matrix, bool) { return f(a, b) })
		wantMatricesOnly(t, call+" with "+briefMatrix(a)+" behind", func(b matrix) (matrix, bool) { return f(b, a) })
	}
	wantMatricesOnly(t, call+" of twice that", func(a matrix) (matrix, bool) { return f(a, a) })
}

// wantSquaresOnly calls f with lists that are no square matrices, and wants it to fail.
func wantSquaresOnly(t *testing.T, call string, f func(m matrix) (poly, bool)) {
	t.Helper()
	for _, m := range append(noMatrices(), notSquare()...) {
		got, ok := f(m)
		wantNoPoly(t, callOfMatrices(call, m), got, ok)
	}
}

// roomy returns a matrix with room behind it, behind its rows and behind its coefficients, and a function that tells all of this memory.
func roomy(m matrix) (matrix, func() string) {
	list := make(matrix, 0, len(m)+1)
	var memory []any
	for _, row := range m {
		polys := make([]poly, 0, len(row)+2)
		for _, a := range row {
			b, whole := withRoom(a)
			polys = append(polys, b)
			memory = append(memory, whole)
		}
		list = append(list, polys)
		memory = append(memory, append(polys, number(14), number(15)))
	}
	memory = append(memory, append(list, numbers(16)))
	return list, func() string { return fmt.Sprint(memory...) }
}

// spoil changes all memory of a polynomial, and what is behind it.
func spoil(a poly) {
	_ = append(a.Coefs, 97)
	whole := a.Coefs[:cap(a.Coefs)]
	for i := range whole {
		whole[i] = 98
	}
}

// wantOwnPlaces wants no two polynomials and no two rows of a matrix to share memory, and spoils all of it.
func wantOwnPlaces(t *testing.T, call string, m matrix) {
	t.Helper()
	for i, row := range m {
		for k := range row {
			kept := fmt.Sprint(with(m, i, k, poly{}))
			spoil(row[k])
			row[k] = poly{}
			if fmt.Sprint(m) != kept {
				t.Fatalf("%s: the row %d and the column %d share memory with others", call, i, k)
			}
			row[k] = number(90 + i)
		}
	}
	for i, row := range m {
		others := slices.Delete(slices.Clone(m), i, i+1)
		kept := fmt.Sprint(others)
		_ = append(row, number(99))
		if fmt.Sprint(others) != kept {
			t.Fatalf("%s: the row %d shares memory with others", call, i)
		}
		clear(row[:cap(row)])
	}
	_ = append(m, nil)
	clear(m[:cap(m)])
}

// wantOwnMatrices calls f with matrices that have room behind them, and wants these and that to be left when the results are changed and grow.
func wantOwnMatrices(t *testing.T, call string, first, second []matrix, f func(a, b matrix) matrix) {
	t.Helper()
	told := 0
	for _, x := range first {
		for _, y := range second {
			call := callOfMatrices(call, x, y)
			a, memoryA := roomy(x)
			b, memoryB := roomy(y)
			keptA, keptB := memoryA(), memoryB()
			result, other := f(a, b), f(a, b)
			told += len(result)
			kept := fmt.Sprint(other)
			wantOwnPlaces(t, call, result)
			if fmt.Sprint(other) != kept {
				t.Fatalf("results of %s share memory", call)
			}
			wantOwnPlaces(t, call, other)
			if memoryA() != keptA || memoryB() != keptB {
				t.Fatalf("%s changes them, or a result shares memory with them", call)
			}
		}
	}
	if told == 0 {
		t.Errorf("%s was never told", call)
	}
}
