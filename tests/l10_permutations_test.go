package tests

import (
	"fmt"
	"math"
	"slices"
	"strings"
	"sync"
	"testing"

	"loop.example/foxcalculus/impl"
)

// Promise 91: If PermIn holds, PermTimes of it and PermTurned moves nothing.

func TestPromise91Lists(t *testing.T) {
	held := map[int]int{}
	for _, p := range append(shortLists(6, -1, 0, 1, 2, 3, 4, 5), allPerms()...) {
		got := impl.PermIn(p)
		if got != isPermSlowly(p) {
			t.Errorf("PermIn of %d is %v", p, got)
		}
		if got {
			held[len(p)]++
		}
	}
	// Each one twice: all numbers of ways to put 1 to 5 points in order.
	if len(held) != 5 || held[1] != 2 || held[2] != 4 || held[3] != 12 || held[4] != 48 || held[5] != 240 {
		t.Errorf("PermIn holds so often for numbers of points: %v", held)
	}
}

func TestPromise91Permutations(t *testing.T) {
	for _, p := range allPerms() {
		if !impl.PermIn(p) {
			t.Errorf("PermIn of %d does not hold", p)
		}
		back, ok := impl.PermTurned(p)
		if !ok {
			t.Errorf("PermTurned of %d failed", p)
		}
		got, ok := impl.PermTimes(p, back)
		wantNumbers(t, fmt.Sprintf("PermTimes of %d and it turned", p), got, ok, stays(len(p)))
		got, ok = impl.PermTimes(back, p)
		wantNumbers(t, fmt.Sprintf("PermTimes of %d turned and it", p), got, ok, stays(len(p)))
	}
}

func TestPromise91Examples(t *testing.T) {
	for _, p := range [][]int{{0}, {0, 1}, {1, 0}, {0, 1, 2}, {1, 2, 0}, {2, 0, 1}, {3, 2, 1, 0}, {0, 1, 2, 3, 4}, {1, 2, 3, 4, 0}, {4, 3, 2, 1, 0}, {4, 0, 3, 1, 2}} {
		if !impl.PermIn(p) {
			t.Errorf("PermIn of %d does not hold", p)
		}
	}
	for _, p := range [][]int{nil, {}, {1}, {-1}, {0, 0}, {1, 1}, {0, 2}, {1, 2}, {1, 2, 3}, {0, 1, 1}, {2, 1, 2}, {0, -1, 1}, {0, 1, 2, 3, 5}, {0, 1, 2, 3, 3}, {1, 2, 3, 4, 5}, {0, 1, 2, 3, 4, 5}, {0, 1, 2, 3, 4, 0}, {math.MaxInt}, {math.MinInt}, {0, math.MaxInt}, {math.MinInt, 0}, {1, 0, math.MaxInt - 1}} {
		if impl.PermIn(p) {
			t.Errorf("PermIn of %d holds", p)
		}
	}
}

func TestPromise91Invalid(t *testing.T) {
	for _, p := range noPerms() {
		if isPermSlowly(p) {
			t.Fatalf("%d is a permutation", p)
		}
		if impl.PermIn(p) {
			t.Errorf("PermIn of %s holds", briefLists(p))
		}
	}
}

// Promise 92: If PermTimes succeeds, its inverse is the inverse of the second one and then that of the first one.

func TestPromise92Permutations(t *testing.T) {
	unlike := 0
	for points := 1; points <= 5; points++ {
		perms := permsOf(points)
		for n, p := range perms {
			for _, q := range perms[n:] {
				wantInverses(t, p, q)
				wantInverses(t, q, p)
				first, _ := impl.PermTimes(p, q)
				second, _ := impl.PermTimes(q, p)
				if !slices.Equal(first, second) {
					unlike++
				}
			}
		}
	}
	if unlike < 5000 {
		t.Errorf("only %d products are others in the other order", unlike)
	}
}

// wantInverses wants the product of two permutations, and its inverse as that of both inverses in the other order.
func wantInverses(t *testing.T, p, q []int) {
	t.Helper()
	call := fmt.Sprintf("PermTimes of %d and %d", p, q)
	got, ok := impl.PermTimes(p, q)
	wantNumbers(t, call, got, ok, productOfPerms(p, q))
	turned, ok := impl.PermTurned(got)
	back, also := impl.PermTimes(turnPermSlowly(q), turnPermSlowly(p))
	wantNumbers(t, call+", of the inverses,", back, also, turned)
	wantNumbers(t, call+", turned,", turned, ok, turnPermSlowly(productOfPerms(p, q)))
}

func TestPromise92Examples(t *testing.T) {
	for _, x := range []struct{ p, q, want []int }{
		{[]int{0}, []int{0}, []int{0}}, {[]int{1, 0}, []int{1, 0}, []int{0, 1}}, {[]int{1, 0}, []int{0, 1}, []int{1, 0}},
		// The first one moves first.
		{[]int{1, 0, 2}, []int{0, 2, 1}, []int{2, 0, 1}}, {[]int{0, 2, 1}, []int{1, 0, 2}, []int{1, 2, 0}},
		{[]int{1, 2, 0}, []int{1, 2, 0}, []int{2, 0, 1}}, {[]int{1, 2, 0}, []int{2, 0, 1}, []int{0, 1, 2}}, {[]int{1, 2, 3, 0}, []int{1, 0, 2, 3}, []int{0, 2, 3, 1}}, {[]int{1, 0, 2, 3}, []int{1, 2, 3, 0}, []int{2, 1, 3, 0}},
		{[]int{1, 2, 3, 4, 0}, []int{1, 2, 3, 4, 0}, []int{2, 3, 4, 0, 1}}, {[]int{4, 3, 2, 1, 0}, []int{1, 2, 3, 4, 0}, []int{0, 4, 3, 2, 1}}, {[]int{1, 2, 3, 4, 0}, []int{4, 3, 2, 1, 0}, []int{3, 2, 1, 0, 4}}, {[]int{0, 1, 2, 3, 4}, []int{3, 0, 4, 1, 2}, []int{3, 0, 4, 1, 2}},
	} {
		got, ok := impl.PermTimes(x.p, x.q)
		wantNumbers(t, fmt.Sprintf("PermTimes of %d and %d", x.p, x.q), got, ok, x.want)
	}
}

// Unlike numbers of points.
func TestPromise92Failures(t *testing.T) {
	for _, p := range allPerms() {
		for _, q := range allPerms() {
			if len(p) != len(q) {
				got, ok := impl.PermTimes(p, q)
				wantNoNumbers(t, fmt.Sprintf("PermTimes of %d and %d", p, q), got, ok)
			}
		}
	}
}

func TestPromise92Invalid(t *testing.T) {
	for _, p := range noPerms() {
		for _, q := range [][]int{p, {0}, {1, 0}, {1, 2, 0}, {0, 1, 2, 3}, {4, 3, 2, 1, 0}} {
			got, ok := impl.PermTimes(p, q)
			wantNoNumbers(t, "PermTimes of "+briefLists(p, q), got, ok)
			got, ok = impl.PermTimes(q, p)
			wantNoNumbers(t, "PermTimes of "+briefLists(q, p), got, ok)
		}
	}
}

// Promise 93: If PermTurned succeeds, it leads back.

func TestPromise93Permutations(t *testing.T) {
	others := 0
	for _, p := range allPerms() {
		got, ok := impl.PermTurned(p)
		wantNumbers(t, fmt.Sprintf("PermTurned of %d", p), got, ok, turnPermSlowly(p))
		if !slices.Equal(got, p) {
			others++
		}
		again, ok := impl.PermTurned(got)
		wantNumbers(t, fmt.Sprintf("PermTurned of %d twice", p), again, ok, p)
	}
	// All but 1, 2, 4, 10 and 26 are not their own inverses.
	if others != 153-43 {
		t.Errorf("%d permutations are not their own inverses", others)
	}
}

func TestPromise93Examples(t *testing.T) {
	for _, x := range []struct{ p, want []int }{
		{[]int{0}, []int{0}}, {[]int{0, 1}, []int{0, 1}}, {[]int{1, 0}, []int{1, 0}}, {[]int{1, 2, 0}, []int{2, 0, 1}}, {[]int{2, 0, 1}, []int{1, 2, 0}}, {[]int{2, 1, 0}, []int{2, 1, 0}}, {[]int{1, 2, 3, 0}, []int{3, 0, 1, 2}}, {[]int{0, 2, 3, 1}, []int{0, 3, 1, 2}}, {[]int{1, 2, 3, 4, 0}, []int{4, 0, 1, 2, 3}}, {[]int{2, 3, 4, 0, 1}, []int{3, 4, 0, 1, 2}}, {[]int{1, 2, 0, 4, 3}, []int{2, 0, 1, 4, 3}}, {[]int{0, 1, 2, 3, 4}, []int{0, 1, 2, 3, 4}},
	} {
		got, ok := impl.PermTurned(x.p)
		wantNumbers(t, fmt.Sprintf("PermTurned of %d", x.p), got, ok, x.want)
	}
}

func TestPromise93Invalid(t *testing.T) {
	for _, p := range noPerms() {
		got, ok := impl.PermTurned(p)
		wantNoNumbers(t, "PermTurned of "+briefLists(p), got, ok)
	}
}

// Promise 94: If MapIn holds, the map keeps the group with so many generators and no relators, and the empty word moves nothing.

func TestPromise94Maps(t *testing.T) {
	for _, list := range allMaps() {
		for gens := -1; gens <= 6; gens++ {
			call := fmt.Sprintf("MapIn of %d and %s", gens, briefLists(list...))
			got := impl.MapIn(gens, list)
			if got != isMapSlowly(gens, list) || got != (gens == len(list)) {
				t.Errorf("%s is %v", call, got)
			}
			if kept := impl.MapKeeps(groupWith(gens), list); kept != got {
				t.Errorf("%s is %v, and MapKeeps %v", call, got, kept)
			}
		}
		moved, ok := impl.MapWord(list, "")
		wantNumbers(t, fmt.Sprintf("MapWord of %s and the empty word", briefLists(list...)), moved, ok, stays(len(list[0])))
	}
}

// All lists of at most 5 short lists, most of them none.
func TestPromise94Lists(t *testing.T) {
	held := map[int]int{}
	pool := [][]int{{}, {0}, {1}, {0, 1}, {1, 0}, {0, 0}, {1, 2, 0}}
	for _, indexes := range shortLists(5, 0, 1, 2, 3, 4, 5, 6) {
		var list [][]int
		for _, i := range indexes {
			list = append(list, pool[i])
		}
		for gens := range 6 {
			got := impl.MapIn(gens, list)
			if got != isMapSlowly(gens, list) {
				t.Errorf("MapIn of %d and %s is %v", gens, briefLists(list...), got)
			}
			if got {
				held[gens]++
			}
		}
	}
	// Those of one and of three points, and all of the two of two points.
	if len(held) != 4 || held[1] != 4 || held[2] != 6 || held[3] != 10 || held[4] != 18 {
		t.Errorf("MapIn holds so often for numbers of generators: %v", held)
	}
}

func TestPromise94Examples(t *testing.T) {
	for _, x := range []struct {
		gens int
		list [][]int
		want bool
	}{
		{1, [][]int{{0}}, true}, {1, [][]int{{4, 3, 2, 1, 0}}, true}, {4, [][]int{{0}, {0}, {0}, {0}}, true}, {4, [][]int{{0, 1, 2, 3, 4}, {1, 2, 3, 4, 0}, {4, 3, 2, 1, 0}, {0, 2, 1, 4, 3}}, true}, {2, [][]int{{1, 0}, {0, 1}}, true}, {3, [][]int{{1, 2, 0}, {1, 2, 0}, {0, 1, 2}}, true},
		// Unlike numbers of points.
		{2, [][]int{{0}, {0, 1}}, false}, {2, [][]int{{0, 1}, {0}}, false}, {3, [][]int{{1, 2, 0}, {0, 1, 2}, {1, 0}}, false}, {4, [][]int{{0, 1, 2, 3, 4}, {0, 1, 2, 3, 4}, {0, 1, 2, 3, 4}, {0, 1, 2, 3}}, false}, {4, [][]int{{0, 1, 2, 3}, {0, 1, 2, 3, 4}, {0, 1, 2, 3, 4}, {0, 1, 2, 3, 4}}, false},
		// Other numbers of generators.
		{2, [][]int{{0}}, false}, {1, [][]int{{0}, {0}}, false}, {0, [][]int{{0}}, false}, {0, nil, false}, {0, [][]int{}, false}, {5, [][]int{{0}, {0}, {0}, {0}, {0}}, false}, {4, [][]int{{0}, {0}, {0}, {0}, {0}}, false}, {5, [][]int{{0}, {0}, {0}, {0}}, false}, {1, nil, false}, {1, [][]int{}, false}, {-1, [][]int{{0}}, false}, {-1, nil, false},
		{1, [][]int{nil}, false}, {1, [][]int{{}}, false}, {2, [][]int{{}, {}}, false}, {2, [][]int{{0}, nil}, false}, {2, [][]int{nil, {0}}, false}, {1, [][]int{{0, 1, 2, 3, 4, 5}}, false}, {2, [][]int{{0, 1, 2, 3, 4, 5}, {0, 1, 2, 3, 4, 5}}, false}, {3, [][]int{{0, 1}, {1, 0}, {1, 1}}, false},
	} {
		if got := impl.MapIn(x.gens, x.list); got != x.want {
			t.Errorf("MapIn of %d and %s is %v", x.gens, briefLists(x.list...), got)
		}
	}
}

func TestPromise94Invalid(t *testing.T) {
	for _, list := range noMaps() {
		for gens := -1; gens <= 6; gens++ {
			if isMapSlowly(gens, list) {
				t.Fatalf("%s is a map", briefLists(list...))
			}
			if impl.MapIn(gens, list) {
				t.Errorf("MapIn of %d and %s holds", gens, briefLists(list...))
			}
		}
		if impl.MapIn(len(list), list) {
			t.Errorf("MapIn of %d and %s holds", len(list), briefLists(list...))
		}
	}
	for _, gens := range outside(4) {
		for _, list := range [][][]int{nil, {}, {{0}}, {{1, 0}, {0, 1}}, scatteredMap(3, 4, 1), scatteredMap(4, 5, 1), scatteredMap(5, 5, 1)} {
			if impl.MapIn(gens, list) {
				t.Errorf("MapIn of %d and %s holds", gens, briefLists(list...))
			}
		}
	}
}

// Promise 95: If MapWord succeeds, that of the inverse is its inverse, and that of the word with a behind, if told, is it and then that of a.

// wantWord wants the permutation of a word, its inverse for the inverse, and itself and then that of each letter with this behind.
func wantWord(t *testing.T, list [][]int, w string) {
	t.Helper()
	call := fmt.Sprintf("MapWord of %s and %q", briefLists(list...), w)
	got := wantMoves(t, list, w)
	back, ok := impl.MapWord(list, turnSlowly(w))
	wantNumbers(t, call+", of the inverse,", back, ok, turnPermSlowly(got))
	for g := range list {
		for _, sign := range []string{generators[g], strings.ToUpper(generators[g])} {
			behind, ok := impl.MapWord(list, w+sign)
			if !isWordSlowly(w + sign) {
				wantNoNumbers(t, call+" and "+sign, behind, ok)
				continue
			}
			wantNumbers(t, call+" and "+sign, behind, ok, productOfPerms(got, mapWord(t, list, sign)))
		}
	}
}

func TestPromise95Words(t *testing.T) {
	words := slices.Concat(allWords(3), longWords(), evenLong(), inverseWords())
	count := 0
	for n, list := range allMaps() {
		for k := range 24 {
			w := words[(n*24+k*k*5+k)%len(words)]
			if inFirstSlowly(w, len(list)) {
				count++
				wantWord(t, list, w)
			}
		}
	}
	if count < 5000 {
		t.Errorf("only %d words were looked at", count)
	}
}

// All words of a few letters, for maps of each number of generators.
func TestPromise95Short(t *testing.T) {
	for gens := 1; gens <= 4; gens++ {
		for n := range 3 {
			list := scatteredMap(gens, 5-n, n)
			for _, w := range wordsIn(gens, allWords(4)) {
				wantMoves(t, list, w)
			}
		}
	}
}

// The empty word, each generator and each inverse letter alone.
func TestPromise95Letters(t *testing.T) {
	for _, list := range allMaps() {
		got, ok := impl.MapWord(list, "")
		wantNumbers(t, "MapWord of the empty word", got, ok, stays(len(list[0])))
		for g, p := range list {
			got, ok = impl.MapWord(list, generators[g])
			wantNumbers(t, fmt.Sprintf("MapWord of %s and %s", briefLists(list...), generators[g]), got, ok, p)
			inverse := strings.ToUpper(generators[g])
			got, ok = impl.MapWord(list, inverse)
			wantNumbers(t, fmt.Sprintf("MapWord of %s and %s", briefLists(list...), inverse), got, ok, turnPermSlowly(p))
		}
	}
}

func TestPromise95Examples(t *testing.T) {
	turn, swap := []int{1, 2, 3, 4, 0}, []int{1, 0, 2, 3, 4}
	pair, three := [][]int{turn, swap}, [][]int{{1, 2, 0}, {1, 0, 2}, {0, 2, 1}, {2, 1, 0}}
	for _, x := range []struct {
		list [][]int
		w    string
		want []int
	}{
		{[][]int{{0}}, "", []int{0}}, {[][]int{{0}}, "aaa", []int{0}}, {[][]int{{1, 0}}, "a", []int{1, 0}}, {[][]int{{1, 0}}, "AA", []int{0, 1}}, {[][]int{{1, 2, 0}}, "AA", []int{1, 2, 0}},
		// From the first letter on.
		{pair, "ab", []int{0, 2, 3, 4, 1}}, {pair, "ba", []int{2, 1, 3, 4, 0}}, {three, "bc", []int{2, 0, 1}}, {three, "cb", []int{1, 2, 0}}, {three, "abcd", []int{2, 1, 0}}, {three, "dcba", []int{1, 0, 2}},
		// Inverse letters at the beginning, in the middle and at the end.
		{pair, "Ab", []int{4, 1, 0, 2, 3}}, {pair, "bA", []int{0, 4, 1, 2, 3}}, {pair, "aBA", []int{4, 1, 2, 3, 0}}, {pair, "Aba", []int{0, 2, 1, 3, 4}}, {pair, "bAb", []int{1, 4, 0, 2, 3}}, {pair, "AA", []int{3, 4, 0, 1, 2}}, {pair, "abAB", []int{4, 0, 2, 3, 1}}, {three, "aDb", []int{0, 1, 2}}, {three, "Cad", []int{1, 2, 0}},
		// Words of LettersMax letters.
		{pair, times("a", 60), stays(5)}, {pair, times("A", 59), turn}, {pair, times("a", 58) + "bb", []int{3, 4, 0, 1, 2}}, {pair, times("b", 59) + "a", []int{2, 1, 3, 4, 0}}, {pair, times("ab", 30), []int{0, 3, 4, 1, 2}}, {pair, times("ab", 29) + "aB", []int{0, 3, 4, 1, 2}},
	} {
		got, ok := impl.MapWord(x.list, x.w)
		wantNumbers(t, fmt.Sprintf("MapWord of %s and %q", briefLists(x.list...), x.w), got, ok, x.want)
	}
}

// Words with a generator beyond those of the map, wherever it stands.
func TestPromise95Failures(t *testing.T) {
	for gens := 1; gens <= 3; gens++ {
		for points := 1; points <= 5; points++ {
			list := scatteredMap(gens, points, 7)
			for _, w := range foreignWords(gens) {
				got, ok := impl.MapWord(list, w)
				wantNoNumbers(t, fmt.Sprintf("MapWord of %s and %q", briefLists(list...), w), got, ok)
			}
			for i := range 60 {
				for _, sign := range []string{generators[gens], strings.ToUpper(generators[gens]), "d", "D"} {
					got, ok := impl.MapWord(list, times("a", i)+sign+times("A", 59-i))
					wantNoNumbers(t, fmt.Sprintf("MapWord of %s and a word with %s at %d", briefLists(list...), sign, i), got, ok)
				}
			}
		}
	}
}

func TestPromise95Invalid(t *testing.T) {
	for _, list := range noMaps() {
		for _, w := range []string{"", "a", "A", "b", "dD", "aA", "e"} {
			got, ok := impl.MapWord(list, w)
			wantNoNumbers(t, fmt.Sprintf("MapWord of %s and %q", briefLists(list...), w), got, ok)
		}
	}
	for _, w := range noWords() {
		for _, list := range [][][]int{{{0}}, {{1, 0}, {0, 1}}, scatteredMap(4, 5, 3), slices.Repeat([][]int{stays(5)}, 4)} {
			got, ok := impl.MapWord(list, w)
			wantNoNumbers(t, fmt.Sprintf("MapWord of %s and %.70q", briefLists(list...), w), got, ok)
		}
	}
}

// A sign that is no letter, and a letter beside its inverse, at each place of words of all lengths.
func TestPromise95Places(t *testing.T) {
	list := scatteredMap(4, 5, 2)
	for n := 1; n <= 62; n++ {
		for i := range n {
			ahead, behind := times("a", i), times("a", n-1-i)
			wantWordIf(t, list, ahead+"b"+behind)
			wantWordIf(t, list, ahead+"A"+behind)
			wantWordIf(t, list, ahead+"e"+behind)
			wantWordIf(t, list, times("b", i)+times("B", n-i))
			wantWordIf(t, list, times("bA", n)[:i]+"B"+times("aC", n)[:n-1-i])
		}
	}
}

// wantWordIf wants what MapWord returns for a text if it is a word, and otherwise a failure.
func wantWordIf(t *testing.T, list [][]int, w string) {
	t.Helper()
	if isWordSlowly(w) {
		wantMoves(t, list, w)
		return
	}
	got, ok := impl.MapWord(list, w)
	wantNoNumbers(t, fmt.Sprintf("MapWord of %q", w), got, ok)
}

// Promise 96: If MapKeeps holds, it holds for the group with its first relator moved by the word a, if told.

// keptCounts counts what wantKeeps has seen.
type keptCounts struct{ kept, not, moved int }

// wantKeeps wants MapKeeps of a group and a map, and the same of the group with its first relator moved.
func wantKeeps(t *testing.T, g group, list [][]int, c *keptCounts) {
	t.Helper()
	call := callOfGroup("MapKeeps of "+briefLists(list...), g)
	got := impl.MapKeeps(g, list)
	if want := len(list) == g.Gens && keepsSlowly(g, list); got != want {
		t.Errorf("%s is %v", call, got)
	}
	if !got {
		c.not++
		return
	}
	c.kept++
	for _, w := range []string{"a", "A", "aa", "bA"} {
		if moved, ok := impl.GroupMove(g, 0, w); ok {
			c.moved++
			if !impl.MapKeeps(moved, list) {
				t.Errorf("%s holds, but not for %s", call, briefGroup(moved))
			}
		}
	}
}

func (c keptCounts) wantAtLeast(t *testing.T, kept, not, moved int) {
	t.Helper()
	if c.kept < kept || c.not < not || c.moved < moved {
		t.Errorf("%d were kept, %d were not, and %d were moved", c.kept, c.not, c.moved)
	}
}

func TestPromise96Groups(t *testing.T) {
	var c keptCounts
	for n, g := range allGroups() {
		for points := 1; points <= 5; points++ {
			wantKeeps(t, g, scatteredMap(g.Gens, points, n), &c)
			few := fewMoved(g.Gens, points)
			wantKeeps(t, g, few[n%len(few)], &c)
			wantKeeps(t, g, few[0], &c)
		}
	}
	c.wantAtLeast(t, 1000, 1000, 1000)
}

// All maps of 3 points, of groups that some of them keep.
func TestPromise96All(t *testing.T) {
	var c keptCounts
	for _, g := range []group{groupWith(1), groupWith(1, ""), groupWith(1, "aa"), groupWith(1, "aaa"), groupWith(1, times("a", 60)), groupWith(2, "abAB"), groupWith(2, "abaBAB"), groupWith(2, "aa", "bbb"), groupWith(2, "aa", "bb", "ababab"), groupWith(2, "aB"), groupWith(3, "abAC", "bcBA"), groupWith(3, "ab", "bC"), groupWith(3, "", "cc", "ac")} {
		eachMap(g.Gens, 3, func(list [][]int) { wantKeeps(t, g, list, &c) })
	}
	c.wantAtLeast(t, 100, 400, 300)
}

func TestPromise96Examples(t *testing.T) {
	turn, swap, still := []int{1, 2, 0}, []int{1, 0, 2}, []int{0, 1, 2}
	for _, x := range []struct {
		g    group
		list [][]int
		want bool
	}{
		// Without relators, and with the empty one.
		{groupWith(1), [][]int{turn}, true}, {groupWith(2), [][]int{turn, swap}, true}, {groupWith(4), [][]int{turn, swap, still, turn}, true}, {groupWith(1, ""), [][]int{turn}, true}, {groupWith(2, "", ""), [][]int{swap, turn}, true},
		{groupWith(1, "aaa"), [][]int{turn}, true}, {groupWith(1, "AAA"), [][]int{turn}, true}, {groupWith(1, "aa"), [][]int{turn}, false}, {groupWith(1, "aa"), [][]int{swap}, true}, {groupWith(1, times("a", 60)), [][]int{{1, 2, 0, 4, 3}}, true}, {groupWith(1, times("a", 59)), [][]int{{1, 2, 0, 4, 3}}, false}, {groupWith(2, "abaBAB"), [][]int{swap, {0, 2, 1}}, true}, {groupWith(2, "abaBAB"), [][]int{swap, turn}, false}, {groupWith(2, "abAB"), [][]int{turn, {2, 0, 1}}, true}, {groupWith(2, "abAB"), [][]int{turn, swap}, false}, {groupWith(2, "aB"), [][]int{turn, turn}, true},
		// Relators that move some points only: the first ones, the last ones, and some of them.
		{groupWith(1, "a"), [][]int{{0, 1, 2, 4, 3}}, false}, {groupWith(1, "a"), [][]int{{1, 0, 2, 3, 4}}, false}, {groupWith(1, "A"), [][]int{{0, 2, 1, 3}}, false}, {groupWith(1, "aa"), [][]int{{1, 0, 3, 4, 2}}, false}, {groupWith(1, "aaa"), [][]int{{1, 2, 0, 4, 3}}, false}, {groupWith(1, "aaaaaa"), [][]int{{1, 2, 0, 4, 3}}, true}, {groupWith(2, "abAB"), [][]int{{1, 2, 0, 3, 4}, {0, 1, 3, 4, 2}}, false},
		// The first relator is kept, and another one is not.
		{groupWith(2, "aa", "bb"), [][]int{swap, turn}, false}, {groupWith(2, "bb", "aa"), [][]int{swap, turn}, false}, {groupWith(2, "aa", "bbb"), [][]int{swap, turn}, true}, {groupWith(2, "", "", "", "b"), [][]int{turn, swap}, false}, {groupWith(2, "b", "", "", ""), [][]int{turn, swap}, false}, {groupWith(4, "a", "b", "c", "d"), [][]int{still, still, still, still}, true}, {groupWith(4, "a", "b", "c", "d"), [][]int{still, still, still, swap}, false},
		// As many permutations as generators, one more and one fewer.
		{groupWith(2, "aa"), [][]int{swap, swap}, true}, {groupWith(2, "aa"), [][]int{swap, swap, swap}, false}, {groupWith(2, "aa"), [][]int{swap}, false}, {groupWith(1), [][]int{still, still}, false}, {groupWith(4), [][]int{still, still, still}, false}, {groupWith(4), [][]int{still, still, still, still, still}, false}, {groupWith(3), [][]int{still, still, still, still}, false}, {groupWith(1), nil, false},
		// Unlike numbers of points.
		{groupWith(2), [][]int{{0}, {0, 1}}, false}, {groupWith(2, "a"), [][]int{{0, 1, 2}, {0, 1}}, false},
	} {
		if got := impl.MapKeeps(x.g, x.list); got != x.want {
			t.Errorf("%s is %v", callOfGroup("MapKeeps of "+briefLists(x.list...), x.g), got)
		}
	}
}

func TestPromise96Invalid(t *testing.T) {
	for _, g := range noGroups() {
		for _, list := range [][][]int{slices.Repeat([][]int{{0}}, min(max(g.Gens, 0), 6)), slices.Repeat([][]int{{0, 1, 2}}, min(max(g.Gens, 1), 4)), nil} {
			if impl.MapKeeps(g, list) {
				t.Errorf("%s holds", callOfGroup("MapKeeps of "+briefLists(list...), g))
			}
		}
	}
	for _, list := range noMaps() {
		for _, g := range []group{groupWith(1), groupWith(2, ""), groupWith(3), groupWith(4, "a"), groupWith(len(list)), groupWith(len(list), "")} {
			if impl.MapKeeps(g, list) {
				t.Errorf("%s holds", callOfGroup("MapKeeps of "+briefLists(list...), g))
			}
		}
	}
	for _, list := range allMaps() {
		for gens := -1; gens <= 6; gens++ {
			if gens != len(list) && impl.MapKeeps(groupWith(gens), list) {
				t.Errorf("MapKeeps of %s and %d generators holds", briefLists(list...), gens)
			}
		}
	}
}

// Promise 97: If MapCount succeeds, it is at least 1, that of the group moved by a at its first relator is the same, and that grown by the word a too, if told.

// wantCount wants how many maps keep a group, and the same for the group moved and grown.
func wantCount(t *testing.T, g group, points int) {
	t.Helper()
	call := fmt.Sprintf("%s for %d points", callOfGroup("MapCount", g), points)
	got, ok := impl.MapCount(g, points)
	wantNumber(t, call, got, ok, mapCountSlowly(g, points))
	if got < 1 {
		t.Errorf("%s is %d", call, got)
	}
	if moved, told := impl.GroupMove(g, 0, "a"); told {
		wantNumber(t, call+" moved by a", mapCount(t, moved, points), true, got)
	}
	if grown, told := impl.GroupGrow(g, "a"); told {
		wantNumber(t, call+" grown by a", mapCount(t, grown, points), true, got)
	}
}

// fewGens returns those of some groups that have at most so many generators.
func fewGens(list []group, gens int) []group {
	return slices.DeleteFunc(slices.Clone(list), func(g group) bool { return g.Gens > gens })
}

func TestPromise97Groups(t *testing.T) {
	for _, g := range slices.Concat(equalRelators(), knotGroups(), smallGroups()) {
		for points := 1; points <= 2; points++ {
			wantCount(t, g, points)
		}
	}
	for _, g := range slices.Concat(fewGens(equalRelators(), 2), fewGens(knotGroups(), 3), fewGens(smallGroups(), 2), fewGens(manyGroups(), 2)) {
		wantCount(t, g, 3)
	}
}

// Of 3 and 4 generators with as many relators as a group can have.
func TestPromise97Great(t *testing.T) {
	for n := range 6 {
		for gens := 3; gens <= 4; gens++ {
			wantCount(t, scatteredGroup(gens, 4, n, relatorWords(gens)), 3)
			wantCount(t, scatteredGroup(gens, 2*n%5, 50+n, wordsIn(gens, allWords(3))), 3)
			wantCount(t, scatteredGroup(gens, n%5, 50+n, evenWords(gens)), 3)
		}
	}
}

func TestPromise97Examples(t *testing.T) {
	sixties := []string{times("ab", 30), times("bc", 30), times("cd", 30), times("da", 30)}
	for _, x := range []struct {
		g               group
		one, two, three int
	}{
		// Without relators all maps keep the group.
		{groupWith(1), 1, 2, 6}, {groupWith(2), 1, 4, 36}, {groupWith(3), 1, 8, 216}, {groupWith(4), 1, 16, 1296}, {groupWith(1, ""), 1, 2, 6}, {groupWith(4, "", "", "", ""), 1, 16, 1296},
		{groupWith(1, "aa"), 1, 2, 4}, {groupWith(1, "aaa"), 1, 1, 3}, {groupWith(1, "aaaa"), 1, 2, 4}, {groupWith(1, "AAAAAA"), 1, 2, 6}, {groupWith(1, times("a", 60)), 1, 2, 6}, {groupWith(1, times("a", 59)), 1, 1, 1}, {groupWith(1, "aa", "aaa"), 1, 1, 1}, {groupWith(1, "aa", "aaaa", "", "AA"), 1, 2, 4},
		{groupWith(2, "abaBAB"), 1, 2, 12}, {groupWith(2, "aBAbaBabAB"), 1, 2, 6}, {groupWith(2, "abAB"), 1, 4, 18}, {groupWith(2, "aa", "bb", "ababab"), 1, 2, 10}, {groupWith(2, "aa", "bbb"), 1, 2, 12}, {groupWith(2, "ab"), 1, 2, 6}, {groupWith(2, "aB"), 1, 2, 6}, {groupWith(2, "a"), 1, 2, 6}, {groupWith(2, "b"), 1, 2, 6}, {groupWith(3, "abAC", "bcBA"), 1, 2, 12}, {groupWith(3, "abAB", "bcBC", "acAC"), 1, 8, 48}, {groupWith(4, "aB", "bC", "cD"), 1, 2, 6}, {groupWith(4, "aB", "bC", "cD", "dd"), 1, 2, 4}, {groupWith(4, "a", "b"), 1, 4, 36},
		// Only the map that moves nothing.
		{groupWith(1, "a"), 1, 1, 1}, {groupWith(1, "A"), 1, 1, 1}, {groupWith(1, "aaaaa"), 1, 1, 1}, {groupWith(2, "a", "b"), 1, 1, 1}, {groupWith(2, "ab", "aab"), 1, 1, 1}, {groupWith(3, "abc", "b", "C"), 1, 1, 1}, {groupWith(4, "a", "b", "c", "d"), 1, 1, 1}, {groupWith(4, "aaaaa", "bA", "cB", "dC"), 1, 1, 1}, {groupWith(2, "abABA", "baBAB"), 1, 1, 1},
		{groupWith(4, sixties...), 1, 16, 1296},
	} {
		for points, want := range map[int]int{1: x.one, 2: x.two, 3: x.three} {
			got, ok := impl.MapCount(x.g, points)
			wantNumber(t, fmt.Sprintf("%s for %d points", callOfGroup("MapCount", x.g), points), got, ok, want)
		}
	}
}

// Each map that MapKeeps holds for is counted, and no other one.
func TestPromise97Kept(t *testing.T) {
	for _, g := range fewGens(append(knotGroups(), smallGroups()...), 3) {
		for points := 1; points <= 3; points++ {
			count := 0
			eachMap(g.Gens, points, func(list [][]int) {
				if impl.MapKeeps(g, list) {
					count++
				}
			})
			got, ok := impl.MapCount(g, points)
			wantNumber(t, fmt.Sprintf("%s for %d points", callOfGroup("MapCount", g), points), got, ok, count)
		}
	}
}

func TestPromise97Invalid(t *testing.T) {
	for _, points := range outside(3) {
		for _, g := range []group{groupWith(1), groupWith(1, "a"), groupWith(2, "abaBAB"), groupWith(3), groupWith(4, "a", "b", "c", "d")} {
			got, ok := impl.MapCount(g, points)
			wantNoNumber(t, fmt.Sprintf("%s for %d points", callOfGroup("MapCount", g), points), got, ok)
		}
	}
	for _, g := range noGroups() {
		for points := range 5 {
			got, ok := impl.MapCount(g, points)
			wantNoNumber(t, fmt.Sprintf("%s for %d points", callOfGroup("MapCount", g), points), got, ok)
		}
	}
}

// Promise 98: If BraidGrow succeeds, MapCount for 3 points of both closed groups, if told, is the same.

// wantSameCounts wants as many maps to keep the closed groups of both braids, if both are told. It returns whether they are.
func wantSameCounts(t *testing.T, a, b braid) bool {
	t.Helper()
	first, ok := impl.BraidGroup(a)
	second, also := impl.BraidGroup(b)
	if !ok || !also {
		return false
	}
	for points := 1; points <= 3; points++ {
		wantNumber(t, fmt.Sprintf("%s: MapCount for %d points", callOfBraids("BraidGroup", a, b), points), mapCount(t, second, points), true, mapCount(t, first, points))
	}
	return true
}

func TestPromise98Braids(t *testing.T) {
	told := map[string]int{}
	for _, b := range allBraids() {
		for _, back := range []bool{true, false} {
			grown, ok := impl.BraidGrow(b, back)
			if ok && wantSameCounts(t, b, grown) {
				told[fmt.Sprint(b.Strands, back)]++
			}
		}
	}
	if told["2 true"] < 30 || told["2 false"] < 30 || told["3 true"] < 50 || told["3 false"] < 50 || len(told) != 4 {
		t.Errorf("so many counts were told for strands and letters: %v", told)
	}
}

// The counts of closed braids: 6 for a knot without colours, 12 with one more kind of them, and 36 for two loops apart.
func TestPromise98Examples(t *testing.T) {
	for _, x := range []struct {
		b    braid
		want int
	}{
		{braidWith(2, ""), 36}, {braidWith(2, "xX"), 36}, {braidWith(3, ""), 216}, {braidWith(4, ""), 1296}, {braidWith(2, "x"), 6}, {braidWith(2, "X"), 6}, {braidWith(3, "xY"), 6}, {braidWith(4, "xyz"), 6}, {braidWith(2, "xx"), 18}, {braidWith(2, "xxx"), 12}, {braidWith(2, "XXX"), 12}, {braidWith(3, "xxxY"), 12}, {braidWith(4, "xxxyz"), 12}, {braidWith(3, "xYxY"), 6}, {braidWith(2, "xxxxx"), 6}, {braidWith(3, "x"), 36}, {braidWith(4, "xz"), 36}, {braidWith(4, "x"), 216},
	} {
		closed, ok := impl.BraidGroup(x.b)
		if !ok {
			t.Fatalf("%s failed", callOfBraids("BraidGroup", x.b))
		}
		wantNumber(t, callOfBraids("MapCount for 3 points of the closed group", x.b), mapCount(t, closed, 3), true, x.want)
	}
}

// What fails has the group that is none, which has no count.
func TestPromise98Invalid(t *testing.T) {
	for _, b := range []braid{braidWith(4, ""), braidWith(4, "xyz"), braidWith(1, ""), braidWith(2, "y"), braidWith(2, times("x", 30)), braidWith(3, times("xY", 15))} {
		grown, ok := impl.BraidGrow(b, false)
		if ok {
			t.Errorf("%s did not fail", callOfBraids("BraidGrow", b))
		}
		closed, ok := impl.BraidGroup(grown)
		wantNoGroup(t, "BraidGroup", closed, ok)
		for points := 1; points <= 3; points++ {
			got, ok := impl.MapCount(closed, points)
			wantNoNumber(t, "MapCount of what failed", got, ok)
		}
	}
}

// Promise 99: If MapOrbit succeeds, it has the point, ascends, and is the same for its first one.

func TestPromise99Maps(t *testing.T) {
	sizes := map[int]int{}
	for _, list := range allMaps() {
		for point := range list[0] {
			call := fmt.Sprintf("MapOrbit of %s and %d", briefLists(list...), point)
			got, ok := impl.MapOrbit(list, point)
			wantNumbers(t, call, got, ok, orbitSlowly(list, point))
			if !slices.Contains(got, point) {
				t.Fatalf("%s is %d, without it", call, got)
			}
			for i := range len(got) - 1 {
				if got[i] >= got[i+1] {
					t.Errorf("%s is %d", call, got)
				}
			}
			first, ok := impl.MapOrbit(list, got[0])
			wantNumbers(t, call+": that of the first one", first, ok, got)
			sizes[len(got)]++
		}
	}
	for n := 1; n <= 5; n++ {
		if sizes[n] < 100 {
			t.Errorf("so many orbits have so many points: %v", sizes)
		}
	}
}

// Each point to which a short word moves is in the orbit, and short words lead to all of them.
func TestPromise99Words(t *testing.T) {
	for n := range 20 {
		list := scatteredMap(2, 5, n)
		for point := range 5 {
			var reached []int
			for _, w := range wordsIn(2, allWords(4)) {
				reached = append(reached, mapWord(t, list, w)[point])
			}
			slices.Sort(reached)
			got, ok := impl.MapOrbit(list, point)
			wantNumbers(t, fmt.Sprintf("MapOrbit of %s and %d", briefLists(list...), point), got, ok, slices.Compact(reached))
		}
	}
}

func TestPromise99Examples(t *testing.T) {
	for _, x := range []struct {
		list  [][]int
		point int
		want  []int
	}{
		// One point alone, and all points.
		{[][]int{{0}}, 0, []int{0}}, {[][]int{{0}, {0}, {0}, {0}}, 0, []int{0}}, {[][]int{{0, 1, 2, 3, 4}}, 3, []int{3}}, {[][]int{{0, 1, 2, 3, 4}, {0, 1, 2, 3, 4}}, 4, []int{4}}, {[][]int{{1, 0, 2}}, 2, []int{2}}, {[][]int{{1, 0, 2}, {1, 0, 2}}, 2, []int{2}}, {[][]int{{0, 2, 3, 4, 1}}, 0, []int{0}}, {[][]int{{1, 2, 3, 4, 0}}, 0, []int{0, 1, 2, 3, 4}}, {[][]int{{1, 2, 3, 4, 0}}, 4, []int{0, 1, 2, 3, 4}}, {[][]int{{3, 4, 0, 1, 2}}, 2, []int{0, 1, 2, 3, 4}}, {[][]int{{1, 0}}, 1, []int{0, 1}}, {[][]int{{2, 0, 1}, {0, 1, 2}}, 1, []int{0, 1, 2}},
		{[][]int{{1, 0, 2, 3, 4}}, 1, []int{0, 1}}, {[][]int{{4, 1, 2, 3, 0}}, 4, []int{0, 4}}, {[][]int{{1, 0, 3, 2}}, 2, []int{2, 3}}, {[][]int{{1, 2, 0, 4, 3}}, 2, []int{0, 1, 2}}, {[][]int{{1, 2, 0, 4, 3}}, 3, []int{3, 4}}, {[][]int{{2, 4, 0, 3, 1}}, 4, []int{1, 4}},
		// Points that are reached by several permutations only.
		{[][]int{{1, 0, 2, 3, 4}, {0, 2, 1, 3, 4}, {0, 1, 3, 2, 4}, {0, 1, 2, 4, 3}}, 0, []int{0, 1, 2, 3, 4}}, {[][]int{{0, 1, 2, 4, 3}, {0, 1, 3, 2, 4}, {0, 2, 1, 3, 4}, {1, 0, 2, 3, 4}}, 0, []int{0, 1, 2, 3, 4}}, {[][]int{{1, 0, 3, 2, 4}, {0, 2, 1, 4, 3}}, 4, []int{0, 1, 2, 3, 4}}, {[][]int{{1, 0, 2, 3}, {0, 2, 1, 3}}, 0, []int{0, 1, 2}}, {[][]int{{1, 0, 2, 3}, {0, 2, 1, 3}}, 3, []int{3}}, {[][]int{{1, 0, 2, 3, 4}, {0, 1, 3, 2, 4}}, 3, []int{2, 3}}, {[][]int{{1, 0, 2, 3, 4}, {0, 1, 3, 2, 4}}, 0, []int{0, 1}}, {[][]int{{0, 2, 1, 3}, {3, 1, 2, 0}}, 3, []int{0, 3}}, {[][]int{{1, 2, 0, 3, 4}, {0, 1, 3, 4, 2}}, 4, []int{0, 1, 2, 3, 4}}, {[][]int{{0, 1, 2, 3}, {0, 1, 2, 3}, {0, 1, 2, 3}, {2, 1, 0, 3}}, 2, []int{0, 2}},
	} {
		got, ok := impl.MapOrbit(x.list, x.point)
		wantNumbers(t, fmt.Sprintf("MapOrbit of %s and %d", briefLists(x.list...), x.point), got, ok, x.want)
	}
}

func TestPromise99Invalid(t *testing.T) {
	for _, list := range allMaps() {
		points := len(list[0])
		for _, point := range append(noRelators(points), -points, 5, 1<<32+points-1) {
			got, ok := impl.MapOrbit(list, point)
			wantNoNumbers(t, fmt.Sprintf("MapOrbit of %s and %d", briefLists(list...), point), got, ok)
		}
	}
	for _, list := range noMaps() {
		for _, point := range []int{0, 1, 2, 4, 5, -1} {
			got, ok := impl.MapOrbit(list, point)
			wantNoNumbers(t, fmt.Sprintf("MapOrbit of %s and %d", briefLists(list...), point), got, ok)
		}
	}
}

// The general rules: results have memory of their own, arguments are left, and nothing is kept.

func TestMapsMemory(t *testing.T) {
	wantOwnLists(t, "MapIn", allMaps(), func(t *testing.T, call string, list [][]int) { impl.MapIn(len(list), list) })
	wantOwnLists(t, "MapWord", allMaps(), func(t *testing.T, call string, list [][]int) {
		for _, w := range []string{"", "a", "AA", strings.Join(generators[:len(list)], "")} {
			wantOwnNumbers(t, call, func() ([]int, bool) { return impl.MapWord(list, w) })
		}
	})
	wantOwnLists(t, "MapOrbit", allMaps(), func(t *testing.T, call string, list [][]int) {
		wantOwnNumbers(t, call, func() ([]int, bool) { return impl.MapOrbit(list, len(list[0])-1) })
	})
	wantOwnLists(t, "MapKeeps", allMaps(), func(t *testing.T, call string, list [][]int) {
		impl.MapKeeps(groupWith(len(list), "aaa"), list)
	})
	for n := range 2 {
		wantOwnGroups(t, "MapKeeps", func(t *testing.T, call string, g group) { impl.MapKeeps(g, scatteredMap(g.Gens, n+2, n)) })
		wantOwnGroups(t, "MapCount", func(t *testing.T, call string, g group) { impl.MapCount(g, n+1) })
	}
}

func TestPermutationsMemory(t *testing.T) {
	var pairs [][][]int
	for n, p := range allPerms() {
		q := scatteredMap(1, len(p), n)[0]
		pairs = append(pairs, [][]int{p, q}, [][]int{p, stays(len(p))}, [][]int{stays(len(p)), p})
	}
	wantOwnLists(t, "PermIn", pairs, func(t *testing.T, call string, list [][]int) { impl.PermIn(list[0]) })
	wantOwnLists(t, "PermTimes", pairs, func(t *testing.T, call string, list [][]int) {
		wantOwnNumbers(t, call, func() ([]int, bool) { return impl.PermTimes(list[0], list[1]) })
	})
	wantOwnLists(t, "PermTurned", pairs, func(t *testing.T, call string, list [][]int) {
		wantOwnNumbers(t, call, func() ([]int, bool) { return impl.PermTurned(list[0]) })
	})
}

func TestMapsKeepNoState(t *testing.T) {
	list, bad := [][]int{{1, 2, 0}, {1, 0, 2}}, [][]int{{1, 2, 0}, {1, 0}}
	g := groupWith(2, "abaBAB")
	for range 3 {
		got, ok := impl.PermTimes(list[0], list[1])
		wantNumbers(t, "PermTimes", got, ok, []int{0, 2, 1})
		got, ok = impl.PermTimes(bad[0], bad[1])
		wantNoNumbers(t, "PermTimes", got, ok)
		got, ok = impl.PermTurned(list[0])
		wantNumbers(t, "PermTurned", got, ok, []int{2, 0, 1})
		got, ok = impl.MapWord(list, "aB")
		wantNumbers(t, "MapWord", got, ok, []int{0, 2, 1})
		got, ok = impl.MapWord(bad, "aB")
		wantNoNumbers(t, "MapWord", got, ok)
		got, ok = impl.MapOrbit(list, 1)
		wantNumbers(t, "MapOrbit", got, ok, []int{0, 1, 2})
		got, ok = impl.MapOrbit(list[1:], 1)
		wantNumbers(t, "MapOrbit", got, ok, []int{0, 1})
		got, ok = impl.MapOrbit(bad, 1)
		wantNoNumbers(t, "MapOrbit", got, ok)
		count, ok := impl.MapCount(g, 3)
		wantNumber(t, "MapCount", count, ok, 12)
		count, ok = impl.MapCount(groupWith(2, "aA"), 3)
		wantNoNumber(t, "MapCount", count, ok)
		if !impl.PermIn(list[0]) || impl.PermIn([]int{1, 1}) || !impl.MapIn(2, list) || impl.MapIn(2, bad) || impl.MapKeeps(g, list) || !impl.MapKeeps(g, [][]int{{1, 0, 2}, {0, 2, 1}}) {
			t.Error("PermIn, MapIn or MapKeeps is not the same each time")
		}
	}
}

// Calls at the same time return what calls one behind the other return.
func TestMapsAtTheSameTime(t *testing.T) {
	var callers sync.WaitGroup
	for range 8 {
		callers.Go(func() {
			for n, g := range knotGroups() {
				got, ok := impl.MapCount(g, 2)
				wantNumber(t, callOfGroup("MapCount", g), got, ok, mapCountSlowly(g, 2))
				list := scatteredMap(g.Gens, 5, n)
				orbit, ok := impl.MapOrbit(list, n%5)
				wantNumbers(t, "MapOrbit of "+briefLists(list...), orbit, ok, orbitSlowly(list, n%5))
				wantMoves(t, list, "aAa"[:1])
			}
		})
	}
	callers.Wait()
}
