package tests

import (
	"fmt"
	"runtime"
	"slices"
	"strings"
	"sync"
	"testing"

	"loop.example/foxcalculus/impl"
)

// Promise 65: If GroupIn holds, it holds without the last relator, and without any the invariants are as many 0 as generators.

func TestPromise65Groups(t *testing.T) {
	for _, g := range allGroups() {
		for h := g; ; h = lastOut(h) {
			if !impl.GroupIn(h) || !isGroupSlowly(h) {
				t.Errorf("%s does not hold", callOfGroup("GroupIn", h))
			}
			if len(h.Rels) == 0 {
				wantNumbers(t, callOfGroup("GroupAbel", h), groupAbel(t, h), true, make([]int, g.Gens))
				break
			}
		}
	}
}

func TestPromise65Relators(t *testing.T) {
	held := map[int]int{}
	for gens := -1; gens <= 6; gens++ {
		for _, s := range append(allTexts(3), longWords()...) {
			for _, g := range []group{groupWith(gens, s), groupWith(gens, "a", s), groupWith(gens, s, "", "AA"), groupWith(gens, "", "", "", s)} {
				got := impl.GroupIn(g)
				if got != isGroupSlowly(g) {
					t.Errorf("%s is %v", callOfGroup("GroupIn", g), got)
				}
				if got {
					held[gens]++
				}
			}
		}
	}
	if len(held) != 4 || held[1] >= held[2] || held[2] >= held[3] || held[3] >= held[4] {
		t.Errorf("GroupIn holds so often for numbers of generators: %v", held)
	}
}

func TestPromise65Counts(t *testing.T) {
	for gens := -3; gens <= 8; gens++ {
		for rels := range 9 {
			for _, s := range []string{"", "a", times("A", 60)} {
				g := groupWith(gens, slices.Repeat([]string{s}, rels)...)
				if got := impl.GroupIn(g); got != (gens >= 1 && gens <= 4 && rels <= 4) {
					t.Errorf("%s is %v", callOfGroup("GroupIn", g), got)
				}
			}
		}
	}
	for gens := 1; gens <= 4; gens++ {
		if !impl.GroupIn(group{Gens: gens}) || !impl.GroupIn(group{Gens: gens, Rels: []string{}}) {
			t.Errorf("GroupIn of %d generators without relators does not hold", gens)
		}
	}
}

func TestPromise65Invalid(t *testing.T) {
	for _, g := range noGroups() {
		if isGroupSlowly(g) {
			t.Fatalf("%s is a group", briefGroup(g))
		}
		if impl.GroupIn(g) {
			t.Errorf("%s holds", callOfGroup("GroupIn", g))
		}
	}
	if impl.GroupIn(group{}) {
		t.Error("GroupIn of the zero value holds")
	}
}

// Promise 66: If GroupEven holds, GroupAbel has a 0.

func TestPromise66Groups(t *testing.T) {
	held, failed := 0, 0
	for _, g := range allGroups() {
		got := impl.GroupEven(g)
		if got != isEvenSlowly(g) {
			t.Errorf("%s is %v", callOfGroup("GroupEven", g), got)
		}
		if !got {
			failed++
			continue
		}
		held++
		if invariants := groupAbel(t, g); len(invariants) == 0 || invariants[len(invariants)-1] != 0 {
			t.Errorf("%s is %d, though it is even", callOfGroup("GroupAbel", g), invariants)
		}
	}
	if held < 200 || failed < 400 {
		t.Errorf("GroupEven holds for %d groups, and fails for %d", held, failed)
	}
}

func TestPromise66Words(t *testing.T) {
	for _, s := range slices.Concat(allWords(4), longWords(), evenLong()) {
		for _, g := range []group{groupWith(4, s), groupWith(4, "", s), groupWith(4, s, "aB"), groupWith(4, "abAB", "cD", s, "")} {
			if got := impl.GroupEven(g); got != isEvenSlowly(groupWith(4, s)) {
				t.Errorf("%s is %v", callOfGroup("GroupEven", g), got)
			}
		}
	}
}

func TestPromise66Examples(t *testing.T) {
	for _, g := range []group{groupWith(1), groupWith(2), groupWith(3), groupWith(4), groupWith(1, ""), groupWith(1, "", "", "", ""), groupWith(2, "abaBAB"), groupWith(2, "aB"), groupWith(3, "aB", "bC", "cA"), groupWith(4, "abCD", "aBcD", "ADbc", ""), groupWith(2, times("aB", 30)), groupWith(2, times("a", 30)+times("B", 30)), groupWith(4, "abAB", "abAB")} {
		if !impl.GroupEven(g) {
			t.Errorf("%s does not hold", callOfGroup("GroupEven", g))
		}
	}
	// The letters of all relators together add up to 0, or those of one generator do.
	for _, g := range []group{groupWith(1, "a"), groupWith(1, "A", "a"), groupWith(2, "a", "B"), groupWith(3, "ab", "", "AC"), groupWith(2, "abA"), groupWith(2, "aab"), groupWith(2, "aabAAB", "b"), groupWith(2, "B", "aabAAB"), groupWith(4, "aB", "bC", "cD", "aa"), groupWith(4, "aBcc", "bC", "cD", "aB"), groupWith(1, times("a", 60)), groupWith(2, times("a", 31)+times("B", 29))} {
		if impl.GroupEven(g) {
			t.Errorf("%s holds", callOfGroup("GroupEven", g))
		}
	}
}

func TestPromise66Invalid(t *testing.T) {
	for _, g := range append(slices.Clone(noGroups()), group{}, groupWith(5), groupWith(0), groupWith(-1), groupWith(2, "", "", "", "", ""), groupWith(2, "cC"), groupWith(2, "cD"), groupWith(1, "aB"), groupWith(1, "abAB"), groupWith(2, "aA"), groupWith(2, times("aB", 31))) {
		if impl.GroupEven(g) {
			t.Errorf("%s holds", callOfGroup("GroupEven", g))
		}
	}
}

// Promise 67: If GroupSums succeeds, it has a row for each relator, each with as many numbers as generators.

func TestPromise67Groups(t *testing.T) {
	for _, g := range allGroups() {
		got, ok := impl.GroupSums(g)
		wantRowsOfNumbers(t, callOfGroup("GroupSums", g), got, ok, groupSumsSlowly(g))
		if len(got) != len(g.Rels) {
			t.Errorf("%s has %d rows", callOfGroup("GroupSums", g), len(got))
		}
		for i, row := range got {
			whole, ok := impl.WordSums(g.Rels[i])
			wantNumbers(t, fmt.Sprintf("WordSums(%q)", g.Rels[i]), whole, ok, slices.Concat(row, make([]int, 4-g.Gens)))
		}
	}
}

func TestPromise67Examples(t *testing.T) {
	for _, x := range []struct {
		g    group
		want [][]int
	}{
		{groupWith(1), nil}, {groupWith(4), nil}, {group{Gens: 3, Rels: []string{}}, nil},
		{groupWith(1, ""), [][]int{{0}}}, {groupWith(4, ""), [][]int{{0, 0, 0, 0}}}, {groupWith(2, "", ""), [][]int{{0, 0}, {0, 0}}}, {groupWith(1, "aaa", "A"), [][]int{{3}, {-1}}}, {groupWith(2, "abaBAB"), [][]int{{1, -1}}},
		// Relators that have not all generators.
		{groupWith(4, "b"), [][]int{{0, 1, 0, 0}}}, {groupWith(3, "a", "C"), [][]int{{1, 0, 0}, {0, 0, -1}}}, {groupWith(4, "dd", "aB", "", "C"), [][]int{{0, 0, 0, 2}, {1, -1, 0, 0}, {0, 0, 0, 0}, {0, 0, -1, 0}}},
		{groupWith(2, "ab", "ab", "ab", "ab"), [][]int{{1, 1}, {1, 1}, {1, 1}, {1, 1}}}, {groupWith(2, times("a", 60), times("B", 60)), [][]int{{60, 0}, {0, -60}}}, {groupWith(4, "abcdABCD", times("abcD", 15)), [][]int{{0, 0, 0, 0}, {15, 15, 15, -15}}},
	} {
		got, ok := impl.GroupSums(x.g)
		wantRowsOfNumbers(t, callOfGroup("GroupSums", x.g), got, ok, x.want)
	}
}

func TestPromise67Invalid(t *testing.T) {
	for _, g := range noGroups() {
		got, ok := impl.GroupSums(g)
		if ok || len(got) != 0 {
			t.Errorf("%s returned %d, %v: it must fail", callOfGroup("GroupSums", g), got, ok)
		}
	}
}

// Promise 68: If GroupAbel succeeds, there are at most as many as generators, each one divides the next one, and they are the same with the relators in the opposite order.

// wantAbel wants the invariants of a group, and returns them.
func wantAbel(t *testing.T, g group) []int {
	t.Helper()
	call := callOfGroup("GroupAbel", g)
	got, ok := impl.GroupAbel(g)
	wantNumbers(t, call, got, ok, invariantsSlowly(g))
	if len(got) > g.Gens {
		t.Errorf("%s has %d numbers", call, len(got))
	}
	for i, n := range got {
		if n < 0 || n == 1 || i > 0 && got[i-1] == 0 && n != 0 || i > 0 && got[i-1] != 0 && n%got[i-1] != 0 {
			t.Errorf("%s is %d", call, got)
		}
	}
	other, ok := impl.GroupAbel(opposed(g))
	wantNumbers(t, call+" with the relators in the opposite order", other, ok, got)
	return got
}

func TestPromise68Groups(t *testing.T) {
	kinds := map[string]int{}
	for _, g := range allGroups() {
		got := wantAbel(t, g)
		zeros := len(got) - len(slices.DeleteFunc(slices.Clone(got), func(n int) bool { return n == 0 }))
		kinds[fmt.Sprint(len(got)-zeros, " and ", zeros)]++
	}
	// 0 to 4 numbers greater than 1 and so many 0 that there are at most 4.
	for _, kind := range []string{"0 and 0", "1 and 0", "2 and 0", "0 and 1", "1 and 1", "2 and 1", "0 and 2", "1 and 2", "2 and 2", "0 and 3", "1 and 3", "0 and 4"} {
		if kinds[kind] < 5 {
			t.Errorf("only %d groups have %s 0: %v", kinds[kind], kind, kinds)
		}
	}
}

// byPowers returns a relator with so many of each generator, in their order.
func byPowers(list []int) string {
	s := ""
	for g, n := range list {
		letters := generators[g]
		if n < 0 {
			letters = strings.ToUpper(letters)
		}
		s += times(letters, max(n, -n))
	}
	return s
}

func TestPromise68Numbers(t *testing.T) {
	var rows []string
	for _, list := range shortLists(2, -4, -2, 0, 3, 6) {
		if len(list) == 2 {
			rows = append(rows, byPowers(list))
		}
	}
	for _, r := range rows {
		for _, s := range rows {
			wantAbel(t, groupWith(2, r, s))
			wantAbel(t, groupWith(2, r, s, "aaBB"))
			wantAbel(t, groupWith(3, r, s))
		}
	}
	state := uint32(1)
	for n := range 400 {
		g := groupWith(n%4 + 1)
		for range n/4%4 + 1 {
			list := make([]int, g.Gens)
			for k := range list {
				state = state*1664525 + 1013904223
				list[k] = int(state>>8)%13 - 6
			}
			g.Rels = append(g.Rels, byPowers(list))
		}
		wantAbel(t, g)
	}
}

func TestPromise68Examples(t *testing.T) {
	sixty := func(g string) string { return times(g, 60) }
	for _, x := range []struct {
		g    group
		want []int
	}{
		// Without relators, and with sums that are all 0.
		{groupWith(1), []int{0}}, {groupWith(2), []int{0, 0}}, {groupWith(3), []int{0, 0, 0}}, {groupWith(4), []int{0, 0, 0, 0}}, {groupWith(1, ""), []int{0}}, {groupWith(4, ""), []int{0, 0, 0, 0}}, {groupWith(2, "", "", "", ""), []int{0, 0}}, {groupWith(2, "abAB"), []int{0, 0}}, {groupWith(4, "abAB", "cdCD", "adAD"), []int{0, 0, 0, 0}}, {groupWith(3, "abcABC", "aabAAB", "", "bCBc"), []int{0, 0, 0}},
		// All invariants are 1.
		{groupWith(1, "a"), nil}, {groupWith(1, "A"), nil}, {groupWith(1, "aa", "aaa"), nil}, {groupWith(2, "a", "b"), nil}, {groupWith(2, "aab", "ab"), nil}, {groupWith(2, "aaab", "aab", "aB"), nil}, {groupWith(2, "abaBAB", "aaB"), nil}, {groupWith(3, "abc", "bc", "C"), nil}, {groupWith(4, "ab", "bc", "cd", "d"), nil}, {groupWith(1, "", "a", "aa", "aaa"), nil},
		// One that is greater than 1, and more.
		{groupWith(1, "aa"), []int{2}}, {groupWith(1, "AAA"), []int{3}}, {groupWith(1, "aaaa", "AAAAAA"), []int{2}}, {groupWith(1, "aaaaaa", "aaaaaaaaaa", times("a", 15)), nil}, {groupWith(1, sixty("a")), []int{60}}, {groupWith(2, "aa", "bbb"), []int{6}}, {groupWith(2, "aa", "bb"), []int{2, 2}}, {groupWith(2, "aaaa", "bbbbbb"), []int{2, 12}}, {groupWith(2, "bbbbbb", "aaaa"), []int{2, 12}}, {groupWith(2, "aab", "abb"), []int{3}}, {groupWith(2, "aabb", "aaBB"), []int{2, 4}}, {groupWith(2, "aabb", "aaBB", "ab"), []int{4}}, {groupWith(2, "aaab", "aabb", "aB"), []int{4}}, {groupWith(2, "abaBAB", "aab"), []int{3}},
		{groupWith(3, "aa", "bbb", "ccccc"), []int{30}}, {groupWith(3, "aa", "bbbb", "cccccc"), []int{2, 2, 12}}, {groupWith(3, "aaaaaa", times("b", 10), times("c", 15)), []int{30, 30}}, {groupWith(4, "aa", "bb", "cc", "dd"), []int{2, 2, 2, 2}}, {groupWith(4, "aa", "bbb", "cccc", "ddddd"), []int{2, 60}}, {groupWith(4, sixty("a"), sixty("B"), sixty("c"), sixty("D")), []int{60, 60, 60, 60}}, {groupWith(4, times("a", 59), times("b", 58), times("c", 57), sixty("d")), []int{6, 58 * 59 * 57 * 10}},
		// With 0 behind.
		{groupWith(2, "abaBAB"), []int{0}}, {groupWith(2, "a"), []int{0}}, {groupWith(2, "aa"), []int{2, 0}}, {groupWith(2, "aabb"), []int{2, 0}}, {groupWith(2, "aabbb"), []int{0}}, {groupWith(3, "aa", "bb"), []int{2, 2, 0}}, {groupWith(3, "aa"), []int{2, 0, 0}}, {groupWith(3, "aabbcc", "abc"), []int{0, 0}}, {groupWith(3, "aabb", "aabb", "aabb"), []int{2, 0, 0}}, {groupWith(4, "aa", "bbb"), []int{6, 0, 0}}, {groupWith(4, "aaaa", "", "cccccc", ""), []int{2, 12, 0, 0}}, {groupWith(4, sixty("d"), sixty("D")), []int{60, 0, 0, 0}}, {groupWith(4, "aaBB", "bbCC", "ccDD", "ddAA"), []int{2, 2, 2, 0}}, {groupWith(2, "aaBB", "AAbb"), []int{2, 0}}, {groupWith(3, "abc", "aBc", "abC"), []int{2, 2}},
	} {
		got, ok := impl.GroupAbel(x.g)
		wantNumbers(t, callOfGroup("GroupAbel", x.g), got, ok, x.want)
		wantAbel(t, x.g)
	}
}

// The relators in any order have the same invariants.
func TestPromise68Orders(t *testing.T) {
	for _, rels := range [][]string{{"aab", "bbc", "ccd", "dda"}, {"aaaa", "bb", "", "cccccc"}, {"aabb", "aaBB", "ab", "aabb"}, {"abAB", "aaaab", "ccD", "bbb"}} {
		want := groupAbel(t, groupWith(4, rels...))
		for i := range 4 {
			for k := range 4 {
				other := slices.Clone(rels)
				other[i], other[k] = other[k], other[i]
				for range 4 {
					other = append(other[1:], other[0])
					got, ok := impl.GroupAbel(groupWith(4, other...))
					wantNumbers(t, callOfGroup("GroupAbel", groupWith(4, other...)), got, ok, want)
				}
			}
		}
	}
}

func TestPromise68Invalid(t *testing.T) {
	for _, g := range noGroups() {
		got, ok := impl.GroupAbel(g)
		wantNoNumbers(t, callOfGroup("GroupAbel", g), got, ok)
	}
}

// Promise 69: If GroupMatrix succeeds, the sum of each row is 0, and its values at 1 are GroupSums.

func TestPromise69Groups(t *testing.T) {
	told, failed, notShort := 0, 0, 0
	for _, g := range allGroups() {
		call := callOfGroup("GroupMatrix", g)
		got, ok := impl.GroupMatrix(g)
		if !isEvenSlowly(g) || len(g.Rels) == 0 {
			failed++
			wantNoMatrix(t, call, got, ok)
			continue
		}
		told++
		if !isShortSlowly(g) {
			notShort++
		}
		wantMatrix(t, call, got, ok, groupMatrixSlowly(g))
		if !impl.MatrixIn(got) {
			t.Errorf("%s is no matrix", call)
		}
		var values [][]int
		for _, row := range got {
			sum, fine := addedSlowly(powersOfAll(row)...)
			wantPoly(t, call+": the sum of a row", sum, fine, poly{})
			var numbers []int
			for _, a := range row {
				numbers = append(numbers, polyOne(t, a))
			}
			values = append(values, numbers)
		}
		sums, ok := impl.GroupSums(g)
		wantRowsOfNumbers(t, call+": its values at 1", values, ok, sums)
	}
	if told < 200 || failed < 400 || notShort < 100 {
		t.Errorf("%d matrices were told, %d of groups that are not short, and %d failed", told, notShort, failed)
	}
}

// Each word is looked at as the relator of a group, and beside another one.
func TestPromise69Words(t *testing.T) {
	for _, s := range evenWords(4) {
		for _, g := range []group{groupWith(4, s), groupWith(4, "abaBAB", s), groupWith(4, s, "", "cD")} {
			got, ok := impl.GroupMatrix(g)
			wantMatrix(t, callOfGroup("GroupMatrix", g), got, ok, groupMatrixSlowly(g))
		}
	}
}

func TestPromise69Examples(t *testing.T) {
	power, zero := polyWith(1, 1), poly{}
	for _, x := range []struct {
		g    group
		want matrix
	}{
		{groupWith(1, ""), inColumns(1, zero)}, {groupWith(1, "", "", "", ""), inColumns(1, zero, zero, zero, zero)}, {groupWith(4, ""), inColumns(4, zero, zero, zero, zero)}, {groupWith(2, "aB"), ofNumbers(2, 1, -1)}, {groupWith(2, "Ab"), inColumns(2, polyWith(-1, -1), polyWith(-1, 1))}, {groupWith(4, "cD"), ofNumbers(4, 0, 0, 1, -1)},
		{groupWith(2, "abAB"), inColumns(2, polyWith(0, 1, -1), polyWith(0, -1, 1))}, {groupWith(2, "abaBAB"), inColumns(2, polyWith(0, 1, -1, 1), polyWith(0, -1, 1, -1))}, {groupWith(3, "abAC", "bcBA"), inColumns(3, polyWith(0, 1, -1), power, number(-1), number(-1), polyWith(0, 1, -1), power)},
		// Even and not short.
		{groupWith(2, "aB", "bA"), ofNumbers(2, 1, -1, -1, 1)}, {groupWith(3, "aC"), ofNumbers(3, 1, 0, -1)}, {groupWith(2, "aB", "", "aB", "abAB"), inColumns(2, number(1), number(-1), zero, zero, number(1), number(-1), polyWith(0, 1, -1), polyWith(0, -1, 1))},
		// Relators of LettersMax letters.
		{groupWith(2, times("a", 30)+times("B", 30)), inColumns(2, spread(0, 30, 1), spread(0, 30, -1))}, {groupWith(2, times("A", 30)+times("b", 30)), inColumns(2, spread(-30, 30, -1), spread(-30, 30, 1))}, {groupWith(2, times("aB", 30)), ofNumbers(2, 30, -30)}, {groupWith(2, times("abAB", 15)), inColumns(2, polyWith(0, 15, -15), polyWith(0, -15, 15))},
	} {
		got, ok := impl.GroupMatrix(x.g)
		wantMatrix(t, callOfGroup("GroupMatrix", x.g), got, ok, x.want)
	}
}

func TestPromise69Invalid(t *testing.T) {
	for _, g := range append(slices.Clone(noGroups()), groupWith(1), groupWith(2), groupWith(3), groupWith(4), group{Gens: 2, Rels: []string{}}, group{}) {
		got, ok := impl.GroupMatrix(g)
		wantNoMatrix(t, callOfGroup("GroupMatrix", g), got, ok)
	}
	for _, g := range almostEven() {
		got, ok := impl.GroupMatrix(g)
		wantNoMatrix(t, callOfGroup("GroupMatrix", g), got, ok)
	}
}

// Promise 70: If GroupPoly succeeds, it is plain, and alike for each other generator, if told.

// wantGroupPolys wants the polynomials of a group for all generators, or failures. It returns whether they are told and not 0.
func wantGroupPolys(t *testing.T, g group) bool {
	t.Helper()
	found := false
	first, told := impl.GroupPoly(g, 0)
	for k := range g.Gens {
		call := callOfGroup(fmt.Sprintf("GroupPoly for %d", k), g)
		got, ok := impl.GroupPoly(g, k)
		if !isShortSlowly(g) {
			wantNoPoly(t, call, got, ok)
			continue
		}
		wantPoly(t, call, got, ok, groupPolySlowly(g, k))
		plain, ok := impl.PolyPlain(got)
		wantPoly(t, call+", plain,", plain, ok, got)
		if !told || !impl.PolyAlike(first, got) {
			t.Errorf("%s is %s, and for the first generator %s", call, briefPoly(got), briefPoly(first))
		}
		found = found || len(got.Coefs) > 0
	}
	return found
}

func TestPromise70Groups(t *testing.T) {
	found, zeros := map[int]int{}, map[int]int{}
	for _, g := range allGroups() {
		if wantGroupPolys(t, g) {
			found[g.Gens]++
		} else if isShortSlowly(g) {
			zeros[g.Gens]++
		}
	}
	for gens := 2; gens <= 4; gens++ {
		if found[gens] < 15 || zeros[gens] < 2 {
			t.Errorf("groups with %d generators have %d polynomials and %d times 0", gens, found[gens], zeros[gens])
		}
	}
}

func TestPromise70Words(t *testing.T) {
	for _, s := range evenWords(2) {
		wantGroupPolys(t, groupWith(2, s))
	}
	words := evenWords(3)
	for n := range 150 {
		wantGroupPolys(t, groupWith(3, words[n*7%len(words)], words[(n*31+5)%len(words)]))
	}
}

func TestPromise70Examples(t *testing.T) {
	for _, x := range []struct {
		g    group
		want poly
	}{
		{groupWith(2, "abaBAB"), polyWith(0, 1, -1, 1)}, {groupWith(3, "abAC", "bcBA"), polyWith(0, 1, -1, 1)}, {groupWith(3, "abAC", "caCB"), polyWith(0, 1, -1, 1)}, {groupWith(2, "ababaBABAB"), polyWith(0, 1, -1, 1, -1, 1)}, {groupWith(2, "aBAbaBabAB"), polyWith(0, 1, -3, 1)},
		{groupWith(2, "aB"), number(1)}, {groupWith(2, "Ab"), number(1)}, {groupWith(3, "aB", "bC"), number(1)}, {groupWith(4, "aB", "bC", "cD"), number(1)}, {groupWith(4, "dA", "cD", "bC"), number(1)}, {groupWith(2, "abAB"), polyWith(0, 1, -1)}, {groupWith(2, "aaBB"), polyWith(0, 1, 1)}, {groupWith(3, "abAB", "bcBC"), polyWith(0, 1, -2, 1)},
		// The determinant is 0.
		{groupWith(2, ""), poly{}}, {groupWith(3, "", ""), poly{}}, {groupWith(4, "", "", ""), poly{}}, {groupWith(3, "abAB", ""), poly{}}, {groupWith(3, "", "abAB"), poly{}}, {groupWith(3, "abAB", "abAB"), poly{}}, {groupWith(3, "aB", "bA"), poly{}}, {groupWith(4, "aB", "bC", "cA"), poly{}}, {groupWith(4, "aB", "cD", "aBcD"), poly{}},
		// Relators of LettersMax letters.
		{groupWith(2, times("a", 30)+times("B", 30)), spread(0, 30, 1)}, {groupWith(2, times("aB", 30)), number(30)}, {groupWith(3, times("aB", 30), times("bC", 30)), number(900)}, {groupWith(4, times("aB", 30), times("bC", 30), times("cD", 30)), number(27000)}, {groupWith(2, times("abAB", 15)), polyWith(0, 15, -15)},
		{groupWith(4, times("a", 30)+times("B", 30), times("b", 30)+times("C", 30), times("C", 30)+times("d", 30)), powerOf(spread(0, 30, 1), 3)},
	} {
		for k := range x.g.Gens {
			got, ok := impl.GroupPoly(x.g, k)
			wantPoly(t, callOfGroup(fmt.Sprintf("GroupPoly for %d", k), x.g), got, ok, x.want)
		}
		wantGroupPolys(t, x.g)
	}
}

// Groups that are even and not short, and such that would be short if they were even.
func TestPromise70NotShort(t *testing.T) {
	list := append(almostEven(), groupWith(1), groupWith(2), groupWith(3), groupWith(4), groupWith(1, ""), groupWith(1, "", ""), groupWith(2, "aB", "aB"), groupWith(2, "", ""), groupWith(3, "aB"), groupWith(3, "aB", "bC", "cA"), groupWith(4, "aB"), groupWith(4, "aB", "bC"), groupWith(4, "aB", "bC", "cD", "dA"), groupWith(2, "ab"), groupWith(2, "a"), groupWith(3, "aB", "a"), groupWith(3, "a", "aB"), groupWith(3, "a", "B"), groupWith(4, "aB", "bC", "abcd"))
	for _, g := range list {
		for k := -1; k <= 4; k++ {
			got, ok := impl.GroupPoly(g, k)
			wantNoPoly(t, callOfGroup(fmt.Sprintf("GroupPoly for %d", k), g), got, ok)
		}
	}
}

func TestPromise70Invalid(t *testing.T) {
	for _, g := range shortGroups() {
		for _, k := range noRelators(g.Gens) {
			got, ok := impl.GroupPoly(g, k)
			wantNoPoly(t, callOfGroup(fmt.Sprintf("GroupPoly for %d", k), g), got, ok)
		}
	}
	for _, g := range noGroups() {
		for k := range 5 {
			got, ok := impl.GroupPoly(g, k)
			wantNoPoly(t, callOfGroup(fmt.Sprintf("GroupPoly for %d", k), g), got, ok)
		}
	}
}

// Promise 71: If GroupMove succeeds, the group has the same invariants, and the same GroupPoly, if both are told.

// counts are how often something was told, failed, and how many polynomials were told for both groups.
type counts struct{ told, failed, polys int }

func (c *counts) add(told bool, polys int) {
	if told {
		c.told++
	} else {
		c.failed++
	}
	c.polys += polys
}

func (c counts) wantAtLeast(t *testing.T, told, failed, polys int) {
	t.Helper()
	if c.told < told || c.failed < failed || c.polys < polys {
		t.Errorf("%d groups were told, %d failed, and %d polynomials were told", c.told, c.failed, c.polys)
	}
}

// wantChanged wants what a group has become if it is told, with the same invariants and polynomials, and otherwise a failure.
func wantChanged(t *testing.T, call string, g, got group, ok bool, want group, told bool, c *counts) {
	t.Helper()
	wantGroupIf(t, call, got, ok, want, told)
	polys := 0
	if ok {
		polys = wantSameGroups(t, call, g, got)
	}
	c.add(ok, polys)
}

// wantMoved wants GroupMove of a group, a relator and a word, or a failure.
func wantMoved(t *testing.T, g group, i int, w string, c *counts) {
	t.Helper()
	want := changedGroup(g, i, reduceSlowly(w+g.Rels[i]+turnSlowly(w)))
	got, ok := impl.GroupMove(g, i, w)
	wantChanged(t, callOfGroup(fmt.Sprintf("GroupMove of %d by %q", i, w), g), g, got, ok, want, isGroupSlowly(want), c)
}

func TestPromise71Groups(t *testing.T) {
	var c counts
	all := slices.Concat([]string{"", "a", "B", "ab", "cAd"}, longWords(), allWords(3))
	for n, g := range allGroups() {
		words := append([]string{"b", "aC", "D"}, wordsIn(g.Gens, all)...)
		for i, s := range g.Rels {
			for k := range 3 {
				wantMoved(t, g, i, words[(n*3+k+i)%len(words)], &c)
			}
			// The inverses of its beginnings, by which its letters are turned.
			wantMoved(t, g, i, turnSlowly(s[:len(s)/2]), &c)
			wantMoved(t, g, i, s, &c)
		}
	}
	c.wantAtLeast(t, 3000, 1000, 1500)
}

func TestPromise71Words(t *testing.T) {
	var c counts
	for _, s := range []string{"", "a", "aB", "abaBAB", "CabA"} {
		for _, w := range slices.Concat(allWords(3), longWords()) {
			wantMoved(t, groupWith(4, s), 0, w, &c)
			wantMoved(t, groupWith(4, "bC", "cD", s), 2, w, &c)
			wantMoved(t, groupWith(3, s, "bC"), 0, w, &c)
		}
	}
	c.wantAtLeast(t, 5000, 1000, 5000)
}

func TestPromise71Examples(t *testing.T) {
	half := times("a", 29)
	for _, x := range []struct {
		g    group
		i    int
		w    string
		want group
	}{
		{groupWith(2, "abaBAB"), 0, "b", groupWith(2, "babaBABB")}, {groupWith(2, "abaBAB"), 0, "A", groupWith(2, "baBABa")}, {groupWith(2, "abaBAB"), 0, "", groupWith(2, "abaBAB")}, {groupWith(1, "aa"), 0, "aaa", groupWith(1, "aa")}, {groupWith(1, ""), 0, times("a", 60), groupWith(1, "")}, {groupWith(1, times("a", 60)), 0, times("A", 60), groupWith(1, times("a", 60))},
		// The first, a middle and the last relator, also among equal ones.
		{groupWith(3, "a", "b", "c"), 0, "b", groupWith(3, "baB", "b", "c")}, {groupWith(3, "a", "b", "c"), 1, "c", groupWith(3, "a", "cbC", "c")}, {groupWith(3, "a", "b", "c"), 2, "A", groupWith(3, "a", "b", "Aca")}, {groupWith(2, "a", "a", "a", "a"), 3, "b", groupWith(2, "a", "a", "a", "baB")}, {groupWith(2, "a", "a", "a", "a"), 0, "b", groupWith(2, "baB", "a", "a", "a")}, {groupWith(2, "a", "", "b"), 1, "ab", groupWith(2, "a", "", "b")},
		// Results of LettersMax letters.
		{groupWith(2, "bb"), 0, half, groupWith(2, half+"bb"+times("A", 29))}, {groupWith(2, "bab"), 0, times("a", 28), groupWith(2, times("a", 28)+"bab"+times("A", 28))}, {groupWith(2, times("ab", 30)), 0, "A", groupWith(2, times("ba", 30))}, {groupWith(2, times("ab", 30)), 0, times("BA", 30), groupWith(2, times("ab", 30))}, {groupWith(3, half+"b"+times("A", 29)), 0, times("c", 29) + times("A", 29), groupWith(3, times("c", 29)+"b"+times("C", 29))},
	} {
		got, ok := impl.GroupMove(x.g, x.i, x.w)
		wantGroup(t, callOfGroup(fmt.Sprintf("GroupMove of %d by %q", x.i, x.w), x.g), got, ok, x.want)
	}
}

// Results with a relator of more than LettersMax letters, or with a generator that the group has not.
func TestPromise71Failures(t *testing.T) {
	for _, x := range []struct {
		g group
		i int
		w string
	}{
		{groupWith(2, "bab"), 0, times("a", 29)}, {groupWith(2, "bb"), 0, times("a", 30)}, {groupWith(2, times("ab", 30)), 0, "a"}, {groupWith(2, times("ab", 30)), 0, "ba"}, {groupWith(2, times("a", 60)), 0, "b"}, {groupWith(2, "a", "bbb", "a"), 1, times("a", 60)}, {groupWith(4, around(29, "ab")), 0, "d"}, {groupWith(4, "", "", "", around(29, "ab")), 3, "d"},
		{groupWith(1, "a"), 0, "b"}, {groupWith(1, "aa"), 0, "aab"}, {groupWith(2, "abAB"), 0, "c"}, {groupWith(2, "abAB"), 0, "Dab"}, {groupWith(3, "a", "b", "c"), 2, "d"}, {groupWith(3, "a", "b", "c"), 1, "aDa"}, {groupWith(2, times("a", 58)), 0, "c"},
	} {
		got, ok := impl.GroupMove(x.g, x.i, x.w)
		wantNoGroup(t, callOfGroup(fmt.Sprintf("GroupMove of %d by %q", x.i, x.w), x.g), got, ok)
	}
}

// A word with other generators leaves the empty word as it is, and then the result is a group.
func TestPromise71EmptyRelators(t *testing.T) {
	eachCount(func(gens, rels int) {
		g := groupWith(gens, make([]string, rels)...)
		for i := range rels {
			for _, w := range []string{"", "a", "b", "C", "d", "abcd", times("d", 60), times("bC", 30)} {
				got, ok := impl.GroupMove(g, i, w)
				wantGroup(t, callOfGroup(fmt.Sprintf("GroupMove of %d by %q", i, w), g), got, ok, g)
			}
		}
	})
}

func TestPromise71Invalid(t *testing.T) {
	for _, g := range append(smallGroups(), evenGroups()...) {
		for _, i := range noRelators(len(g.Rels)) {
			for _, w := range []string{"", "a", "aA"} {
				got, ok := impl.GroupMove(g, i, w)
				wantNoGroup(t, callOfGroup(fmt.Sprintf("GroupMove of %d by %q", i, w), g), got, ok)
			}
		}
	}
	for _, w := range noWords() {
		for _, g := range []group{groupWith(4, ""), groupWith(4, "a", "bb"), groupWith(2, "abaBAB")} {
			got, ok := impl.GroupMove(g, 0, w)
			wantNoGroup(t, callOfGroup(fmt.Sprintf("GroupMove by %.70q", w), g), got, ok)
		}
	}
	for _, g := range noGroups() {
		for i := range min(len(g.Rels), 5) + 1 {
			for _, w := range []string{"", "a", "A"} {
				got, ok := impl.GroupMove(g, i, w)
				wantNoGroup(t, callOfGroup(fmt.Sprintf("GroupMove of %d by %q", i, w), g), got, ok)
			}
		}
	}
}

// Promise 72: If GroupJoin succeeds, the group has the same invariants, and the same GroupPoly, if both are told.

// wantJoined wants GroupJoin of a group and two relators, or a failure.
func wantJoined(t *testing.T, g group, i, k int, c *counts) {
	t.Helper()
	want := changedGroup(g, i, reduceSlowly(g.Rels[i]+g.Rels[k]))
	got, ok := impl.GroupJoin(g, i, k)
	wantChanged(t, callOfGroup(fmt.Sprintf("GroupJoin of %d and %d", i, k), g), g, got, ok, want, i != k && isGroupSlowly(want), c)
}

func TestPromise72Groups(t *testing.T) {
	var c counts
	for _, g := range allGroups() {
		for i := range g.Rels {
			for k := range g.Rels {
				wantJoined(t, g, i, k, &c)
			}
		}
	}
	c.wantAtLeast(t, 2000, 1000, 500)
}

func TestPromise72Words(t *testing.T) {
	var c counts
	words := append(longWords(), allWords(1)...)
	for _, r := range words {
		for _, s := range append(words, turnSlowly(r)) {
			g := groupWith(4, r, "cD", s)
			for _, pair := range [][2]int{{0, 2}, {2, 0}, {1, 0}, {2, 1}} {
				wantJoined(t, g, pair[0], pair[1], &c)
			}
		}
	}
	c.wantAtLeast(t, 1000, 1000, 0)
}

func TestPromise72Examples(t *testing.T) {
	thirty, sixty := times("a", 30), times("ab", 30)
	for _, x := range []struct {
		g    group
		i, k int
		want group
	}{
		// With the first and the last relator.
		{groupWith(3, "a", "b", "c"), 0, 2, groupWith(3, "ac", "b", "c")}, {groupWith(3, "a", "b", "c"), 2, 0, groupWith(3, "a", "b", "ca")}, {groupWith(3, "a", "b", "c"), 1, 0, groupWith(3, "a", "ba", "c")}, {groupWith(4, "a", "b", "c", "d"), 3, 2, groupWith(4, "a", "b", "c", "dc")}, {groupWith(4, "a", "b", "c", "d"), 0, 3, groupWith(4, "ad", "b", "c", "d")},
		{groupWith(2, "abAB", "baBA"), 0, 1, groupWith(2, "", "baBA")}, {groupWith(2, "abAB", "baB"), 0, 1, groupWith(2, "a", "baB")}, {groupWith(2, "abAB", "baB"), 1, 0, groupWith(2, "abAB", "baBabAB")}, {groupWith(1, "a", "A"), 0, 1, groupWith(1, "", "A")}, {groupWith(1, "", "a"), 0, 1, groupWith(1, "a", "a")}, {groupWith(1, "", "a"), 1, 0, groupWith(1, "", "a")}, {groupWith(2, "", "", "", ""), 1, 3, groupWith(2, "", "", "", "")}, {groupWith(2, "ab", "ab"), 0, 1, groupWith(2, "abab", "ab")},
		// Results of LettersMax letters.
		{groupWith(1, thirty, thirty), 0, 1, groupWith(1, times("a", 60), thirty)}, {groupWith(2, thirty, times("b", 30)), 1, 0, groupWith(2, thirty, times("b", 30)+thirty)}, {groupWith(2, sixty, ""), 0, 1, groupWith(2, sixty, "")}, {groupWith(2, sixty, ""), 1, 0, groupWith(2, sixty, sixty)}, {groupWith(2, sixty, times("BA", 30)), 0, 1, groupWith(2, "", times("BA", 30))}, {groupWith(2, sixty, "Ba"), 0, 1, groupWith(2, sixty[:59]+"a", "Ba")}, {groupWith(2, times("a", 60), times("A", 60)), 1, 0, groupWith(2, times("a", 60), "")},
	} {
		got, ok := impl.GroupJoin(x.g, x.i, x.k)
		wantGroup(t, callOfGroup(fmt.Sprintf("GroupJoin of %d and %d", x.i, x.k), x.g), got, ok, x.want)
	}
}

// Both the same relator, and results with more than LettersMax letters.
func TestPromise72Failures(t *testing.T) {
	for _, x := range []struct {
		g    group
		i, k int
	}{
		{groupWith(2, "a", "b"), 0, 0}, {groupWith(2, "a", "b"), 1, 1}, {groupWith(1, ""), 0, 0}, {groupWith(2, "", "", "", ""), 3, 3}, {groupWith(4, "ab", "ab", "ab"), 2, 2},
		{groupWith(1, times("a", 30), times("a", 31)), 0, 1}, {groupWith(1, times("a", 30), times("a", 31)), 1, 0}, {groupWith(2, times("a", 60), "b"), 0, 1}, {groupWith(2, times("a", 60), "b"), 1, 0}, {groupWith(2, "b", "b", times("ab", 30), times("ab", 30)), 3, 2}, {groupWith(2, times("a", 60), "Ab", "bb"), 0, 2},
	} {
		got, ok := impl.GroupJoin(x.g, x.i, x.k)
		wantNoGroup(t, callOfGroup(fmt.Sprintf("GroupJoin of %d and %d", x.i, x.k), x.g), got, ok)
	}
}

func TestPromise72Invalid(t *testing.T) {
	for _, g := range append(smallGroups(), knotGroups()...) {
		for _, other := range noRelators(len(g.Rels)) {
			for i := range 5 {
				for _, pair := range [][2]int{{i, other}, {other, i}, {other, other}} {
					got, ok := impl.GroupJoin(g, pair[0], pair[1])
					wantNoGroup(t, callOfGroup(fmt.Sprintf("GroupJoin of %d and %d", pair[0], pair[1]), g), got, ok)
				}
			}
		}
	}
	for _, g := range noGroups() {
		for i := range min(len(g.Rels), 5) + 1 {
			for k := range min(len(g.Rels), 5) + 1 {
				got, ok := impl.GroupJoin(g, i, k)
				wantNoGroup(t, callOfGroup(fmt.Sprintf("GroupJoin of %d and %d", i, k), g), got, ok)
			}
		}
	}
}

// Promise 73: If GroupGrow succeeds, the group has the same invariants, and with a word whose letters add up to 1, of an even group, the same GroupPoly, if both are told.

// wantGrown wants GroupGrow of a group and a word, or a failure.
func wantGrown(t *testing.T, g group, w string, c *counts) {
	t.Helper()
	call := callOfGroup(fmt.Sprintf("GroupGrow by %q", w), g)
	got, ok := impl.GroupGrow(g, w)
	if g.Gens == 4 || !inFirstSlowly(w, g.Gens) {
		wantNoGroup(t, call, got, ok)
		c.add(false, 0)
		return
	}
	want := groupWith(g.Gens+1, append(slices.Clone(g.Rels), w+[]string{"B", "C", "D"}[g.Gens-1])...)
	wantGroupIf(t, call, got, ok, want, isGroupSlowly(want))
	polys := 0
	if ok && isEvenSlowly(groupWith(4, w+"A")) && isEvenSlowly(g) {
		polys = wantSameGroups(t, call, g, got)
	} else if ok {
		wantNumbers(t, call+": the invariants", groupAbel(t, got), ok, groupAbel(t, g))
	}
	c.add(ok, polys)
}

func TestPromise73Groups(t *testing.T) {
	var c counts
	words := slices.Concat([]string{"", "a", "b", "C", "D"}, longWords(), allWords(2), []string{"abA", "baB", "abaBA", "aabAB", "bcB", "aBc", times("a", 59), times("b", 59), times("aB", 29) + "a"})
	for n, g := range allGroups() {
		for k := range 4 {
			wantGrown(t, g, words[(n*4+k)%len(words)], &c)
		}
		for _, w := range []string{"a", "Aba", "abAbA", "aBa"} {
			wantGrown(t, g, w, &c)
		}
	}
	c.wantAtLeast(t, 2000, 1000, 300)
}

func TestPromise73Words(t *testing.T) {
	var c counts
	for _, g := range []group{groupWith(1), groupWith(1, "aa"), groupWith(2, "abaBAB"), groupWith(2), groupWith(3, "aB", "bC"), groupWith(3, "abAC", "bcBA"), groupWith(3), groupWith(3, "a", "b", "c"), groupWith(3, "", "", "", ""), groupWith(4), groupWith(4, "abc")} {
		for _, w := range slices.Concat(allWords(3), longWords(), evenLong()) {
			wantGrown(t, g, w, &c)
		}
	}
	c.wantAtLeast(t, 900, 1000, 200)
}

func TestPromise73Examples(t *testing.T) {
	for _, x := range []struct {
		g    group
		w    string
		want group
	}{
		{groupWith(1), "", groupWith(2, "B")}, {groupWith(1), "a", groupWith(2, "aB")}, {groupWith(1, "aa"), "AA", groupWith(2, "aa", "AAB")}, {groupWith(2, "abaBAB"), "abA", groupWith(3, "abaBAB", "abAC")}, {groupWith(2), "", groupWith(3, "C")},
		// 3 generators, 3 relators, both, and words of as many letters as there may be.
		{groupWith(3), "abc", groupWith(4, "abcD")}, {groupWith(3), "", groupWith(4, "D")}, {groupWith(3, "a", "b", "c"), "C", groupWith(4, "a", "b", "c", "CD")}, {groupWith(2, "a", "", "b"), "ab", groupWith(3, "a", "", "b", "abC")}, {groupWith(1, "a", "a", "a"), "a", groupWith(2, "a", "a", "a", "aB")}, {groupWith(1), times("a", 59), groupWith(2, times("a", 59)+"B")}, {groupWith(3, times("ab", 30)), times("C", 59), groupWith(4, times("ab", 30), times("C", 59)+"D")},
	} {
		got, ok := impl.GroupGrow(x.g, x.w)
		wantGroup(t, callOfGroup(fmt.Sprintf("GroupGrow by %q", x.w), x.g), got, ok, x.want)
	}
}

// Too many generators, relators or letters, and words with another generator, also the new one and where it would be taken out.
func TestPromise73Failures(t *testing.T) {
	for _, x := range []struct {
		g group
		w string
	}{
		{groupWith(4), ""}, {groupWith(4), "a"}, {groupWith(4, "a"), "d"}, {groupWith(3, "", "", "", ""), "a"}, {groupWith(1, "a", "a", "a", "a"), ""}, {groupWith(4, "a", "b", "c", "d"), "abcd"}, {groupWith(1), times("a", 60)}, {groupWith(3), times("ab", 30)}, {groupWith(2, "abAB"), times("B", 60)},
		{groupWith(1), "b"}, {groupWith(1), "ab"}, {groupWith(1), "B"}, {groupWith(1), "c"}, {groupWith(2), "c"}, {groupWith(2), "abc"}, {groupWith(2), "C"}, {groupWith(2), "cab"}, {groupWith(2), "aDb"}, {groupWith(3), "d"}, {groupWith(3), "abD"}, {groupWith(3, "abc"), "ad"}, {groupWith(3), times("d", 60)}, {groupWith(3), times("a", 59) + "d"}, {groupWith(2), times("b", 59) + "c"},
	} {
		got, ok := impl.GroupGrow(x.g, x.w)
		wantNoGroup(t, callOfGroup(fmt.Sprintf("GroupGrow by %q", x.w), x.g), got, ok)
	}
}

func TestPromise73Invalid(t *testing.T) {
	for _, w := range noWords() {
		for _, g := range []group{groupWith(3), groupWith(1, "aa"), groupWith(2, "abaBAB"), groupWith(3, "", "a")} {
			got, ok := impl.GroupGrow(g, w)
			wantNoGroup(t, callOfGroup(fmt.Sprintf("GroupGrow by %.70q", w), g), got, ok)
		}
	}
	for _, g := range noGroups() {
		for _, w := range []string{"", "a", "b", "D", "aA"} {
			got, ok := impl.GroupGrow(g, w)
			wantNoGroup(t, callOfGroup(fmt.Sprintf("GroupGrow by %q", w), g), got, ok)
		}
	}
}

// The general rules: results have memory of their own, arguments are left, nothing is kept, and nothing goes on.

func TestGroupsMemory(t *testing.T) {
	wantOwnGroups(t, "GroupIn", func(t *testing.T, call string, g group) { impl.GroupIn(g) })
	wantOwnGroups(t, "GroupEven", func(t *testing.T, call string, g group) { impl.GroupEven(g) })
	wantOwnGroups(t, "GroupSums", func(t *testing.T, call string, g group) {
		rows, _ := impl.GroupSums(g)
		for i, row := range rows {
			others := slices.Delete(slices.Clone(rows), i, i+1)
			kept := fmt.Sprint(others)
			spoilAll(row, 99)
			if fmt.Sprint(others) != kept {
				t.Fatalf("%s: the row %d shares memory with others", call, i)
			}
		}
		spoilAll(rows, nil)
	})
	wantOwnGroups(t, "GroupAbel", func(t *testing.T, call string, g group) {
		first, second := groupAbel(t, g), groupAbel(t, g)
		kept := slices.Clone(second)
		spoilAll(first, 99)
		if !slices.Equal(second, kept) {
			t.Fatalf("results of %s share memory", call)
		}
	})
	wantOwnGroups(t, "GroupMatrix", func(t *testing.T, call string, g group) { wantOwnPlaces(t, call, mustMatrix(impl.GroupMatrix(g))) })
	for k := range 4 {
		wantOwnGroups(t, "GroupPoly", func(t *testing.T, call string, g group) {
			got, _ := impl.GroupPoly(g, k)
			spoil(got)
		})
	}
}

func TestGroupsRelatorsMemory(t *testing.T) {
	told := 0
	for name, f := range map[string]func(g group) (group, bool){
		"GroupMove": func(g group) (group, bool) { return impl.GroupMove(g, len(g.Rels)-1, "a") }, "GroupMove by 1": func(g group) (group, bool) { return impl.GroupMove(g, 0, "") },
		"GroupJoin": func(g group) (group, bool) { return impl.GroupJoin(g, 0, 1) }, "GroupGrow": func(g group) (group, bool) { return impl.GroupGrow(g, "a") },
	} {
		wantOwnGroups(t, name, func(t *testing.T, call string, g group) {
			first, _ := f(g)
			second, ok := f(g)
			kept := slices.Clone(second.Rels)
			spoilAll(first.Rels, "spoilt")
			if !slices.Equal(second.Rels, kept) {
				t.Fatalf("results of %s share memory", call)
			}
			if ok {
				told++
			}
		})
	}
	if told < 1000 {
		t.Errorf("only %d groups were told", told)
	}
}

func TestGroupsKeepNoState(t *testing.T) {
	g, bad := groupWith(2, "abaBAB"), groupWith(2, "aA")
	for range 3 {
		abel, ok := impl.GroupAbel(groupWith(2, "aaaa", "bbbbbb"))
		wantNumbers(t, "GroupAbel", abel, ok, []int{2, 12})
		abel, ok = impl.GroupAbel(bad)
		wantNoNumbers(t, "GroupAbel", abel, ok)
		rows, ok := impl.GroupSums(g)
		wantRowsOfNumbers(t, "GroupSums", rows, ok, [][]int{{1, -1}})
		m, ok := impl.GroupMatrix(g)
		wantMatrix(t, "GroupMatrix", m, ok, inColumns(2, polyWith(0, 1, -1, 1), polyWith(0, -1, 1, -1)))
		m, ok = impl.GroupMatrix(bad)
		wantNoMatrix(t, "GroupMatrix", m, ok)
		a, ok := impl.GroupPoly(g, 1)
		wantPoly(t, "GroupPoly", a, ok, polyWith(0, 1, -1, 1))
		a, ok = impl.GroupPoly(bad, 1)
		wantNoPoly(t, "GroupPoly", a, ok)
		h, ok := impl.GroupMove(g, 0, "A")
		wantGroup(t, "GroupMove", h, ok, groupWith(2, "baBABa"))
		h, ok = impl.GroupJoin(groupWith(2, "a", "b"), 0, 1)
		wantGroup(t, "GroupJoin", h, ok, groupWith(2, "ab", "b"))
		h, ok = impl.GroupJoin(g, 0, 0)
		wantNoGroup(t, "GroupJoin", h, ok)
		h, ok = impl.GroupGrow(g, "a")
		wantGroup(t, "GroupGrow", h, ok, groupWith(3, "abaBAB", "aC"))
		if !impl.GroupIn(g) || impl.GroupIn(bad) || !impl.GroupEven(g) || impl.GroupEven(bad) {
			t.Error("GroupIn or GroupEven is not the same each time")
		}
	}
}

// Calls at the same time return what calls one behind the other return, and leave no goroutine behind.
func TestGroupsAtTheSameTime(t *testing.T) {
	groups := manyGroups()
	want := make([][]int, len(groups))
	for i, g := range groups {
		want[i] = groupAbel(t, g)
	}
	before := runtime.NumGoroutine()
	var callers sync.WaitGroup
	for range 8 {
		callers.Go(func() {
			for i, g := range groups {
				if got, ok := impl.GroupAbel(g); !ok || !slices.Equal(got, want[i]) {
					t.Errorf("%s returned %d, %v, not %d", callOfGroup("GroupAbel", g), got, ok, want[i])
				}
			}
		})
	}
	callers.Wait()
	// One that has just ended may be counted still.
	if after := runtime.NumGoroutine(); after > before+100 {
		t.Errorf("%d goroutines are left of calls", after-before)
	}
}
