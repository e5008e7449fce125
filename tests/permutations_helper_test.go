package tests

import (
	"fmt"
	"math"
	"slices"
	"strings"
	"sync"
	"testing"

	"loop.example/foxcalculus/impl"
)

// isPermSlowly reports whether a list has just the numbers less than its length, 1 to 5.
func isPermSlowly(p []int) bool {
	for n := 1; n <= 5; n++ {
		if slices.Equal(slices.Sorted(slices.Values(p)), stays(n)) {
			return true
		}
	}
	return false
}

// stays returns the permutation of n points that moves nothing.
func stays(n int) []int {
	return []int{0, 1, 2, 3, 4}[:n:n]
}

// permsOfSizes are all permutations of each number of points, made once, as this takes long.
var permsOfSizes = sync.OnceValue(func() [][][]int {
	var sizes [][][]int
	for n := range 6 {
		sizes = append(sizes, slices.DeleteFunc(shortLists(n, stays(n)...), func(p []int) bool { return len(p) < n || !isPermSlowly(p) }))
	}
	return sizes
})

// permsOf returns all permutations of n points.
func permsOf(n int) [][]int {
	return permsOfSizes()[n]
}

// allPerms returns all permutations, those of fewer points first.
func allPerms() [][]int {
	return slices.Concat(permsOfSizes()...)
}

// withNumber returns the list with another number in a place.
func withNumber(p []int, i, x int) []int {
	p = slices.Clone(p)
	p[i] = x
	return p
}

// noPerms are lists that are no permutations, made once, as this takes long.
var noPerms = sync.OnceValue(func() [][]int {
	list := [][]int{nil, {}, {1, 2, 3}, {1, 2, 0, 4}, {0, 1, 2, 3, 4, 5}, {5, 4, 3, 2, 1, 0}, {0, 0, 0, 0, 0, 0}, {0, 1, 2, 3, 4, 4}, {0, 1, 2, 3, 4, 0}, {0, 1, 2, 3, 4, -1}, {1, 0, 2, 3, 4, math.MaxInt}, make([]int, 7), make([]int, 256), make([]int, 257), make([]int, 100000)}
	for n := 6; n < 300; n += 7 {
		var p []int
		for i := range n {
			p = append(p, i)
		}
		list = append(list, p)
	}
	for n, p := range allPerms() {
		for i := range p {
			// Given twice, so that another one is missing, or beyond the points.
			for _, x := range []int{p[(i+1)%len(p)], -1, len(p), len(p) + 1, -p[i] - 1, -len(p), p[i] + 256, p[i] - 256, p[i] + 1<<32, p[i] - 1<<32, math.MaxInt, math.MaxInt - p[i], math.MinInt, math.MinInt + p[i]} {
				if x != p[i] && (n%7 == 0 || n < 40) {
					list = append(list, withNumber(p, i, x))
				}
			}
		}
		list = append(list, withNumber(p, 0, len(p)), withNumber(p, len(p)-1, -1))
	}
	return list
})

// fewNoPerms returns lists of all kinds that are no permutations, with as many numbers as points where there are 1 to 5.
func fewNoPerms(points int) [][]int {
	p := stays(points)
	list := [][]int{nil, {}, {0, 1, 2, 3, 4, 5}, append(slices.Clone(p), 0), append(slices.Clone(p), points)[1:], withNumber(p, points-1, -1), withNumber(p, 0, math.MaxInt), withNumber(p, 0, math.MinInt), withNumber(p, points-1, points+256), withNumber(p, points-1, points-1+1<<32)}
	if points > 1 {
		list = append(list, withNumber(p, 0, 1), withNumber(p, points-1, 0))
	}
	return list
}

// scatteredMap returns a map of so many generators and points, others for each number.
func scatteredMap(gens, points, n int) [][]int {
	state := uint32(n*1000 + gens*10 + points)
	from := permsOf(points)
	var list [][]int
	for range gens {
		state = state*1664525 + 1013904223
		list = append(list, from[int(state>>8)%len(from)])
	}
	return list
}

// fewMoved returns maps that leave many points, or all of them, in their places.
func fewMoved(gens, points int) [][][]int {
	still := slices.Repeat([][]int{stays(points)}, gens)
	list := [][][]int{still}
	for g := range gens {
		for i := range points - 1 {
			p := stays(points)
			p = withNumber(withNumber(p, i, i+1), i+1, i)
			one := slices.Clone(still)
			one[g] = p
			list = append(list, one, slices.Repeat([][]int{p}, gens))
		}
	}
	return list
}

// eachMapSize calls f with all numbers of generators and points that a map may have.
func eachMapSize(f func(gens, points int)) {
	for gens := 1; gens <= 4; gens++ {
		for points := 1; points <= 5; points++ {
			f(gens, points)
		}
	}
}

// allMaps are maps of all kinds, for each number of generators and points, made once, as this takes long.
var allMaps = sync.OnceValue(func() [][][]int {
	var list [][][]int
	eachMapSize(func(gens, points int) {
		list = append(list, fewMoved(gens, points)...)
		for n := range 20 {
			list = append(list, scatteredMap(gens, points, n))
		}
	})
	for _, p := range allPerms() {
		list = append(list, [][]int{p})
	}
	return append(list,
		// Points that are reached by several permutations only, in steps of unlike permutations.
		[][]int{{1, 0, 2, 3, 4}, {0, 2, 1, 3, 4}, {0, 1, 3, 2, 4}, {0, 1, 2, 4, 3}}, [][]int{{0, 1, 2, 4, 3}, {0, 1, 3, 2, 4}, {0, 2, 1, 3, 4}, {1, 0, 2, 3, 4}}, [][]int{{1, 0, 3, 2, 4}, {0, 2, 1, 4, 3}}, [][]int{{1, 0, 2, 3, 4}, {0, 1, 3, 2, 4}}, [][]int{{4, 1, 2, 3, 0}, {0, 3, 2, 1, 4}, {0, 4, 2, 3, 1}}, [][]int{{1, 2, 0, 3, 4}, {0, 1, 3, 4, 2}}, [][]int{{0, 2, 1, 3}, {3, 1, 2, 0}}, [][]int{{1, 2, 3, 4, 0}, {1, 0, 2, 3, 4}})
})

// isMapSlowly reports whether a list is a map of so many generators.
func isMapSlowly(gens int, list [][]int) bool {
	for _, p := range list {
		if !isPermSlowly(p) || len(p) != len(list[0]) {
			return false
		}
	}
	switch gens {
	case 1, 2, 3, 4:
		return len(list) == gens
	}
	return false
}

// noMaps are lists that are no maps of any number of generators, made once, as this takes long.
var noMaps = sync.OnceValue(func() [][][]int {
	list := [][][]int{nil, {}}
	for points := 1; points <= 5; points++ {
		for _, n := range []int{5, 6, 8, 256, 257, 260, 10000} {
			list = append(list, slices.Repeat([][]int{stays(points)}, n))
		}
		list = append(list, scatteredMap(5, points, 0), scatteredMap(6, points, 0))
	}
	for _, p := range noPerms() {
		list = append(list, [][]int{p})
	}
	eachMapSize(func(gens, points int) {
		for i := range gens {
			others := fewNoPerms(points)
			for other := 1; other <= 5; other++ {
				if gens > 1 && other != points {
					others = append(others, stays(other), scatteredMap(1, other, i)[0])
				}
			}
			for n, p := range others {
				m := scatteredMap(gens, points, n)
				m[i] = p
				list = append(list, m)
			}
		}
	})
	return list
})

// moveSlowly returns the point to which a word moves a point, one letter behind the other.
func moveSlowly(list [][]int, w string, point int) int {
	for _, sign := range []byte(w) {
		if g := strings.IndexByte("abcd", sign); g >= 0 {
			point = list[g][point]
		} else {
			point = slices.Index(list[strings.IndexByte("ABCD", sign)], point)
		}
	}
	return point
}

// wordMovesSlowly returns the permutation by which a word moves.
func wordMovesSlowly(list [][]int, w string) []int {
	var ends []int
	for point := range list[0] {
		ends = append(ends, moveSlowly(list, w, point))
	}
	return ends
}

// productOfPerms returns the permutation that moves as all of some permutations, one behind the other.
func productOfPerms(list ...[]int) []int {
	var ends []int
	for point := range list[0] {
		for _, p := range list {
			point = p[point]
		}
		ends = append(ends, point)
	}
	return ends
}

// turnPermSlowly returns, for each point, where it stands.
func turnPermSlowly(p []int) []int {
	var back []int
	for point := range p {
		back = append(back, slices.Index(p, point))
	}
	return back
}

// keepsSlowly reports whether each relator of a group moves each point to itself, for a map with enough generators.
func keepsSlowly(g group, list [][]int) bool {
	for _, s := range g.Rels {
		if !slices.Equal(wordMovesSlowly(list, s), stays(len(list[0]))) {
			return false
		}
	}
	return true
}

// eachMap calls f with all maps of so many generators and points.
func eachMap(gens, points int, f func(list [][]int)) {
	perms := permsOf(points)
	for _, indexes := range shortLists(gens, []int{0, 1, 2, 3, 4, 5}[:len(perms)]...) {
		if len(indexes) < gens {
			continue
		}
		var list [][]int
		for _, i := range indexes {
			list = append(list, perms[i])
		}
		f(list)
	}
}

// mapCountSlowly looks at all maps.
func mapCountSlowly(g group, points int) int {
	count := 0
	eachMap(g.Gens, points, func(list [][]int) {
		if keepsSlowly(g, list) {
			count++
		}
	})
	return count
}

// orbitSlowly adds points to which, or from which, one of them is moved until there are no more.
func orbitSlowly(list [][]int, point int) []int {
	in := map[int]bool{point: true}
	for range 5 {
		for _, p := range list {
			for from, to := range p {
				if in[from] || in[to] {
					in[from], in[to] = true, true
				}
			}
		}
	}
	return slices.DeleteFunc(stays(len(list[0])), func(i int) bool { return !in[i] })
}

// briefLists tells lists of numbers in not too many signs.
func briefLists(list ...[]int) string {
	var texts []string
	for _, p := range list[:min(len(list), 6)] {
		texts = append(texts, fmt.Sprint(p[:min(len(p), 8)]))
	}
	return fmt.Sprintf("<%s> (%d lists)", strings.Join(texts, " "), len(list))
}

// mapWord returns the permutation by which a word moves.
func mapWord(t *testing.T, list [][]int, w string) []int {
	t.Helper()
	got, ok := impl.MapWord(list, w)
	if !ok {
		t.Errorf("MapWord of %s and %q failed", briefLists(list...), w)
	}
	return got
}

func mapCount(t *testing.T, g group, points int) int {
	t.Helper()
	got, ok := impl.MapCount(g, points)
	if !ok {
		t.Errorf("%s for %d points failed", callOfGroup("MapCount", g), points)
	}
	return got
}

// wantMoves wants the permutation by which a word moves, and checks the word backwards: from each end it leads back to its point.
func wantMoves(t *testing.T, list [][]int, w string) []int {
	t.Helper()
	call := fmt.Sprintf("MapWord of %s and %q", briefLists(list...), w)
	got, ok := impl.MapWord(list, w)
	wantNumbers(t, call, got, ok, wordMovesSlowly(list, w))
	for point, end := range got {
		if back := moveSlowly(list, turnSlowly(w), end); back != point {
			t.Errorf("%s: backwards from %d the word leads to %d, not %d", call, end, back, point)
		}
	}
	return got
}

// wantOwnLists calls f with each of some lists of numbers that have room behind, and wants these to be left.
func wantOwnLists(t *testing.T, call string, lists [][][]int, f func(t *testing.T, call string, list [][]int)) {
	t.Helper()
	for _, list := range lists {
		whole := [][]int{}
		for _, p := range list {
			whole = append(whole, append(slices.Clone(p), 77, 78))
		}
		kept := fmt.Sprint(whole)
		given := make([][]int, len(list), len(list)+2)
		for i, p := range list {
			given[i] = whole[i][:len(p)]
		}
		f(t, call+" of "+briefLists(list...), given)
		if fmt.Sprint(whole) != kept || fmt.Sprint(given) != fmt.Sprint(list) || given[:len(list)+1][len(list)] != nil {
			t.Fatalf("%s of %s changes it, or its result shares memory with it", call, briefLists(list...))
		}
	}
}

// wantOwnNumbers wants two results of a call to be the same, and that one is left when the other one is spoilt.
func wantOwnNumbers(t *testing.T, call string, f func() ([]int, bool)) {
	t.Helper()
	first, ok := f()
	second, also := f()
	kept := slices.Clone(second)
	if !ok || !also || !slices.Equal(first, second) {
		t.Fatalf("%s is %d, and then %d", call, first, second)
	}
	spoilAll(first, 99)
	if !slices.Equal(second, kept) {
		t.Fatalf("results of %s share memory", call)
	}
}
