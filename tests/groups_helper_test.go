package tests

import (
	"fmt"
	"math/big"
	"slices"
	"strings"
	"sync"
	"testing"

	"loop.example/foxcalculus/impl"
)

type group = impl.Group

func groupWith(gens int, rels ...string) group {
	return group{Gens: gens, Rels: rels}
}

// changedGroup returns the group with another text as one of its relators.
func changedGroup(g group, i int, s string) group {
	rels := slices.Clone(g.Rels)
	rels[i] = s
	return groupWith(g.Gens, rels...)
}

// opposed returns the group with its relators in the opposite order.
func opposed(g group) group {
	rels := slices.Clone(g.Rels)
	slices.Reverse(rels)
	return groupWith(g.Gens, rels...)
}

// lastOut returns the group without the last relator.
func lastOut(g group) group {
	return groupWith(g.Gens, g.Rels[:len(g.Rels)-1]...)
}

func sameGroup(a, b group) bool {
	return a.Gens == b.Gens && slices.Equal(a.Rels, b.Rels)
}

// inFirstSlowly reports whether a text has no letters but so many first generators and their inverses.
func inFirstSlowly(s string, gens int) bool {
	return strings.Trim(s, "abcd"[:gens]+"ABCD"[:gens]) == ""
}

// isGroupSlowly reports whether a group is as told.
func isGroupSlowly(g group) bool {
	if g.Gens != 1 && g.Gens != 2 && g.Gens != 3 && g.Gens != 4 {
		return false
	}
	for _, s := range g.Rels {
		if !isWordSlowly(s) || !inFirstSlowly(s, g.Gens) {
			return false
		}
	}
	return len(g.Rels) <= 4
}

// isEvenSlowly reports whether each relator of a group has as many generators as inverses.
func isEvenSlowly(g group) bool {
	for _, s := range g.Rels {
		generatorsIn := 0
		for _, generator := range generators {
			generatorsIn += strings.Count(s, generator)
		}
		if 2*generatorsIn != len(s) {
			return false
		}
	}
	return true
}

func isShortSlowly(g group) bool {
	return isEvenSlowly(g) && len(g.Rels) > 0 && g.Gens == len(g.Rels)+1
}

func groupSumsSlowly(g group) [][]int {
	var rows [][]int
	for _, s := range g.Rels {
		rows = append(rows, sumsSlowly(s)[:g.Gens])
	}
	return rows
}

// leastPlace returns the row and the column of the number that is least in size but not 0, and whether there is one.
func leastPlace(rows [][]*big.Int) (int, int, bool) {
	row, column, found := 0, 0, false
	for i := range rows {
		for k, n := range rows[i] {
			if n.Sign() != 0 && (!found || n.CmpAbs(rows[row][column]) < 0) {
				row, column, found = i, k, true
			}
		}
	}
	return row, column, found
}

// addRow adds a row times a number to another one.
func addRow(rows [][]*big.Int, to, from int, times *big.Int) {
	for k := range rows[to] {
		rows[to][k].Add(rows[to][k], new(big.Int).Mul(rows[from][k], times))
	}
}

// addColumn adds a column times a number to another one.
func addColumn(rows [][]*big.Int, to, from int, times *big.Int) {
	for i := range rows {
		rows[i][to].Add(rows[i][to], new(big.Int).Mul(rows[i][from], times))
	}
}

// cleared makes all of a row and a column less in size than the number where they meet, and returns whether the others in them are 0 and it divides all numbers.
func cleared(rows [][]*big.Int, i, k int) bool {
	done := true
	for other := range rows {
		if other != i {
			addRow(rows, other, i, new(big.Int).Neg(new(big.Int).Quo(rows[other][k], rows[i][k])))
			done = done && rows[other][k].Sign() == 0
		}
	}
	for other := range rows[i] {
		if other != k {
			addColumn(rows, other, k, new(big.Int).Neg(new(big.Int).Quo(rows[i][other], rows[i][k])))
			done = done && rows[i][other].Sign() == 0
		}
	}
	for other := range rows {
		for _, n := range rows[other] {
			if done && new(big.Int).Rem(n, rows[i][k]).Sign() != 0 {
				addRow(rows, i, other, big.NewInt(1))
				return false
			}
		}
	}
	return done
}

// diagonalSlowly returns what rows and columns of numbers become when these are added to one another until each has one number at most, each of which divides the next one.
func diagonalSlowly(list [][]int) []int {
	var rows [][]*big.Int
	for _, numbers := range list {
		var row []*big.Int
		for _, n := range numbers {
			row = append(row, big.NewInt(int64(n)))
		}
		rows = append(rows, row)
	}
	var diagonal []int
	for {
		i, k, found := leastPlace(rows)
		if !found {
			return diagonal
		}
		if !cleared(rows, i, k) {
			continue
		}
		diagonal = append(diagonal, int(new(big.Int).Abs(rows[i][k]).Int64()))
		rows[i][k].SetInt64(0)
	}
}

// invariantsSlowly returns the invariants of a group: a sum of cyclic groups is what its relators leave if letters may be exchanged.
func invariantsSlowly(g group) []int {
	diagonal := diagonalSlowly(groupSumsSlowly(g))
	invariants := slices.DeleteFunc(slices.Clone(diagonal), func(n int) bool { return n == 1 })
	return append(invariants, make([]int, g.Gens-len(diagonal))...)
}

func groupMatrixSlowly(g group) matrix {
	m, told := matrixWith(len(g.Rels), g.Gens, func(i, k int) (poly, bool) {
		return polyOfSumSlowly(foxSlowly(g.Rels[i], k)).told()
	})
	if !told {
		panic("a derivative that is no polynomial")
	}
	return m
}

func plainPolySlowly(a poly) poly {
	if len(a.Coefs) > 0 && a.Coefs[0] < 0 {
		a = timesNumber(a, -1)
	}
	return polyWith(0, a.Coefs...)
}

func groupPolySlowly(g group, k int) poly {
	var m matrix
	for _, row := range groupMatrixSlowly(g) {
		m = append(m, slices.Delete(row, k, k+1))
	}
	det, told := detOfOrders(m).told()
	if !told {
		panic("a determinant that is no polynomial")
	}
	return plainPolySlowly(det)
}

// wordsIn returns those of some texts that have no letters but so many first generators and their inverses.
func wordsIn(gens int, texts []string) []string {
	return slices.DeleteFunc(slices.Clone(texts), func(s string) bool { return !inFirstSlowly(s, gens) })
}

// relatorWords returns words of all kinds that a group may have as relators: those that meet the limits, and short ones.
func relatorWords(gens int) []string {
	last := generators[gens-1]
	return append(wordsIn(gens, slices.Concat(longWords(), allWords(2), evenLong(), []string{"", "", "a", "aaa", "aaaaaa", "bbbb", "AAb", "aabbb", "aaBBcc", "cccc", "ddCbb", "abcd", "aabbccdd", "BBBB", "aaaab", "AAAABBBB"})),
		times(last, 2), times(last, 4), times(last, 6), times(strings.ToUpper(last), 9), times(last, 12), times(last, 60), times("a", 4), times("a", 6), times("A", 10))
}

// evenLong returns words of 60 letters, or nearly so many, with as many generators as inverses.
func evenLong() []string {
	return []string{
		times("a", 30) + times("B", 30), times("B", 30) + times("a", 30), times("aB", 30), times("Ab", 30), times("abAB", 15), times("ABab", 15), times("aaBB", 15), times("aabAAB", 10), around(29, "aB"), around(29, "bA"),
		times("a", 15) + times("b", 15) + times("A", 15) + times("B", 15), times("b", 15) + times("c", 15) + times("B", 15) + times("C", 15), times("d", 15) + times("a", 15) + times("D", 15) + times("A", 15), times("aC", 30), times("bC", 30), times("cD", 30), times("aDbC", 15), times("abcABC", 10), times("abcdABCD", 7) + "aBcD",
		times("a", 20) + times("B", 20) + times("a", 10) + times("B", 10), times("a", 10) + times("B", 20) + times("c", 10) + times("A", 10) + times("c", 10), times("A", 30) + times("d", 30),
	}
}

// evenOfAll are words with as many generators as inverses, made once, as this takes long.
var evenOfAll = sync.OnceValue(func() []string {
	words := slices.Concat(allWords(4), evenLong(), evenLong(), []string{"", "abaBAB", "baBABa", "abAC", "bcBA", "caCB", "abABcd", "aBAbaBabAB", "aabAAB", "abcABC", "abABabAB", "cdCD", "adAB", "bdBC", "cdCA", "dADb", "aabbAABB"})
	return slices.DeleteFunc(words, func(s string) bool { return !isEvenSlowly(groupWith(4, s)) })
})

// evenWords returns words with as many generators as inverses that have so many first generators only.
func evenWords(gens int) []string {
	return wordsIn(gens, evenOfAll())
}

// scatteredGroup returns a group with so many of some words as relators, others for each number.
func scatteredGroup(gens, rels, n int, from []string) group {
	state := uint32(n*1000 + gens*10 + rels)
	g := groupWith(gens)
	for range rels {
		state = state*1664525 + 1013904223
		g.Rels = append(g.Rels, from[int(state>>8)%len(from)])
	}
	return g
}

// eachCount calls f with all numbers of generators and relators that a group may have.
func eachCount(f func(gens, rels int)) {
	for gens := 1; gens <= 4; gens++ {
		for rels := range 5 {
			f(gens, rels)
		}
	}
}

// equalRelators returns groups with relators that are all the same, the empty word and one of 60 letters among them.
func equalRelators() []group {
	var list []group
	eachCount(func(gens, rels int) {
		for _, s := range []string{"", "a", "AA", generators[gens-1], times("a", 60), strings.ToUpper(times(generators[gens-1], 60))} {
			list = append(list, groupWith(gens, slices.Repeat([]string{s}, rels)...))
		}
	})
	return append(list, groupWith(2, "abAB", "abAB"), groupWith(3, "abAB", "abAB"), groupWith(3, "aabC", "aabC", "aabC"), groupWith(4, "abcd", "abcd", "abcd", "abcd"), groupWith(4, times("aB", 30), times("aB", 30), times("aB", 30)))
}

// evenGroups returns groups each relator of which has as many generators as inverses.
func evenGroups() []group {
	var list []group
	eachCount(func(gens, rels int) {
		from := evenWords(gens)
		list = append(list, groupWith(gens, make([]string, rels)...))
		for n := range 8 {
			list = append(list, scatteredGroup(gens, rels, n, from))
		}
	})
	for gens := 2; gens <= 4; gens++ {
		for n := range 12 {
			list = append(list, scatteredGroup(gens, gens-1, 100+n, evenWords(gens)), scatteredGroup(gens, gens-1, 200+n, wordsIn(gens, evenLong()[:8])))
		}
	}
	return append(list, knotGroups()...)
}

// knotGroups returns groups of knots and links, and some that are like those.
func knotGroups() []group {
	return []group{
		groupWith(2, "abaBAB"), groupWith(3, "abAC", "bcBA"), groupWith(3, "abAC", "caCB"), groupWith(2, "aBAbaBabAB"), groupWith(2, "abAB"), groupWith(2, ""), groupWith(3, "", ""), groupWith(4, "", "", ""), groupWith(2, "aB"), groupWith(3, "aB", "bC"), groupWith(4, "aB", "bC", "cD"),
		groupWith(2, "ababaBABAB"), groupWith(3, "abAB", "bcBC"), groupWith(4, "abAC", "bcBD", "cdCA"), groupWith(4, "abAC", "bcBA", "aD"), groupWith(2, times("ab", 14)+"a"+times("BA", 14)+"B"), groupWith(3, "abAB", ""), groupWith(3, "abAB", "abAB"), groupWith(3, "aBcA", "abCA"),
	}
}

func shortGroups() []group {
	return slices.DeleteFunc(evenGroups(), func(g group) bool { return !isShortSlowly(g) })
}

// almostEven returns even groups with one relator that is not even.
func almostEven() []group {
	var list []group
	for n, g := range evenGroups() {
		for i := range g.Rels {
			for _, s := range []string{"a", "AA", times("A", 60), times(generators[g.Gens-1], 59)} {
				if (n+i)%4 == 0 {
					list = append(list, changedGroup(g, i, s))
				}
			}
		}
	}
	return append(list, groupWith(2, "a", "B"), groupWith(3, "a", "A"), groupWith(3, "ab", "AB"), groupWith(4, "aB", "a", "AA", "b"), groupWith(4, "", "", "", "d"), groupWith(3, "aab", "aBB"), groupWith(2, "aab"), groupWith(2, "abA"))
}

// manyGroups returns groups with relators of all kinds, for each number of generators and relators.
func manyGroups() []group {
	var list []group
	eachCount(func(gens, rels int) {
		from := relatorWords(gens)
		for n := range 20 {
			list = append(list, scatteredGroup(gens, rels, n, from))
		}
	})
	return list
}

// smallGroups returns groups with relators of a few letters.
func smallGroups() []group {
	var list []group
	eachCount(func(gens, rels int) {
		from := wordsIn(gens, allWords(3))
		for n := range 6 {
			list = append(list, scatteredGroup(gens, rels, n, from))
		}
	})
	return list
}

func allGroups() []group {
	return slices.Concat(equalRelators(), evenGroups(), almostEven(), manyGroups(), smallGroups())
}

// noGens returns groups with a number of generators that is none.
func noGens() []group {
	var list []group
	for _, gens := range append(outside(4), 256, 258, 6, 8, 1<<32+4, -3) {
		for _, rels := range [][]string{nil, {}, {""}, {"a"}, {"abAB"}, {"a", "b", "c", "d"}, {"e"}, {"aA"}, make([]string, 5)} {
			list = append(list, groupWith(gens, rels...))
		}
	}
	return list
}

// foreignWords returns words with a generator that is not among so many first ones.
func foreignWords(gens int) []string {
	return slices.DeleteFunc(slices.Concat(allWords(2), longWords(), evenLong(), []string{"aab", "abc", "abcd", "aaaB", "Daa", "cAAA", "aacaa", "abDBA", "abC", "dd", times("a", 59) + "b", times("a", 59) + "C", "d" + times("a", 59), times("a", 30) + "D" + times("b", 29), times("d", 60)}), func(s string) bool {
		return inFirstSlowly(s, gens)
	})
}

// noGroups are groups that are not as told, made once, as this takes long.
var noGroups = sync.OnceValue(func() []group {
	list := noGens()
	for gens := 1; gens <= 4; gens++ {
		list = append(list, groupWith(gens, make([]string, 5)...), groupWith(gens, "a", "a", "a", "a", "a"), groupWith(gens, "", "", "", "", "a"), groupWith(gens, make([]string, 8)...), groupWith(gens, make([]string, 256)...), groupWith(gens, make([]string, 260)...), groupWith(gens, make([]string, 100000)...))
		list = append(list, groupWith(gens, slices.Repeat([]string{times("a", 60)}, 5)...), groupWith(gens, "a", "aa", "A", "", "aA"))
		for _, s := range append(noWords(), foreignWords(gens)...) {
			list = append(list, groupWith(gens, s))
		}
	}
	eachCount(func(gens, rels int) {
		foreign, all, even := foreignWords(gens), relatorWords(gens), evenWords(gens)
		for n, s := range append(foreign[:len(foreign)/8], "aA", "Bb", "abBa", "e", "a ", " ", "\x00", "E", "ä", times("a", 61), times("a", 30)+"A"+times("a", 29)) {
			for i := range rels {
				list = append(list, changedGroup(scatteredGroup(gens, rels, n, all), i, s), changedGroup(scatteredGroup(gens, rels, n, even), i, s))
			}
		}
	})
	return list
})

// noRelators returns numbers that are no indexes of so many relators, or of generators.
func noRelators(count int) []int {
	return append(beyondInts(count), -1, -2, -count, -count-1, count, count+1, 1<<32, -1<<32, 256, -256, 1<<62)
}

// briefGroup tells a group in not too many signs.
func briefGroup(g group) string {
	var texts []string
	for _, s := range g.Rels[:min(len(g.Rels), 6)] {
		texts = append(texts, fmt.Sprintf("%.70q", s))
	}
	return fmt.Sprintf("<%d: %s> (%d relators)", g.Gens, strings.Join(texts, " "), len(g.Rels))
}

func callOfGroup(name string, g group) string {
	return name + " of " + briefGroup(g)
}

func wantGroup(t *testing.T, call string, got group, ok bool, want group) {
	t.Helper()
	if !ok || !sameGroup(got, want) {
		t.Errorf("%s returned %s, %v, not %s", call, briefGroup(got), ok, briefGroup(want))
	}
}

func wantNoGroup(t *testing.T, call string, got group, ok bool) {
	t.Helper()
	if ok || got.Gens != 0 || len(got.Rels) != 0 {
		t.Errorf("%s returned %s, %v: it must fail", call, briefGroup(got), ok)
	}
}

// wantGroupIf wants a group if it is told, and otherwise a failure.
func wantGroupIf(t *testing.T, call string, got group, ok bool, want group, told bool) {
	t.Helper()
	if told {
		wantGroup(t, call, got, ok, want)
	} else {
		wantNoGroup(t, call, got, ok)
	}
}

func wantNumbers(t *testing.T, call string, got []int, ok bool, want []int) {
	t.Helper()
	if !ok || !slices.Equal(got, want) {
		t.Errorf("%s returned %d, %v, not %d", call, got, ok, want)
	}
}

func wantNoNumbers(t *testing.T, call string, got []int, ok bool) {
	t.Helper()
	if ok || len(got) != 0 {
		t.Errorf("%s returned %d, %v: it must fail", call, got, ok)
	}
}

func wantRowsOfNumbers(t *testing.T, call string, got [][]int, ok bool, want [][]int) {
	t.Helper()
	if !ok || !slices.EqualFunc(got, want, slices.Equal[[]int]) {
		t.Errorf("%s returned %d, %v, not %d", call, got, ok, want)
	}
}

// groupAbel returns the invariants of a group.
func groupAbel(t *testing.T, g group) []int {
	t.Helper()
	got, ok := impl.GroupAbel(g)
	if !ok {
		t.Errorf("%s failed", callOfGroup("GroupAbel", g))
	}
	return got
}

// wantSameGroups wants two groups to have the same invariants, and, if told, the same polynomials for each generator. It returns how many of these are told.
func wantSameGroups(t *testing.T, call string, a, b group) int {
	t.Helper()
	if !slices.Equal(groupAbel(t, a), groupAbel(t, b)) {
		t.Errorf("%s: the invariants of %s are %d, and those of %s %d", call, briefGroup(a), groupAbel(t, a), briefGroup(b), groupAbel(t, b))
	}
	told := 0
	for k := range 4 {
		first, ok := impl.GroupPoly(a, k)
		second, also := impl.GroupPoly(b, k)
		if !ok || !also {
			continue
		}
		told++
		if !samePoly(first, second) {
			t.Errorf("%s: the polynomial of %s for %d is %s, and that of %s %s", call, briefGroup(a), k, briefPoly(first), briefGroup(b), briefPoly(second))
		}
	}
	return told
}

// wantOwnGroups calls f with groups that have room behind their relators, and wants these and that to be left when the result, which f spoils, was made.
func wantOwnGroups(t *testing.T, call string, f func(t *testing.T, call string, g group)) {
	t.Helper()
	for _, g := range allGroups() {
		whole := append(slices.Clone(g.Rels), "room", "behind")
		kept := slices.Clone(whole)
		f(t, callOfGroup(call, g), groupWith(g.Gens, whole[:len(g.Rels)]...))
		if !slices.Equal(whole, kept) {
			t.Fatalf("%s changes it, or its result shares memory with it", callOfGroup(call, g))
		}
	}
}

// spoilAll changes all memory of a slice, and what is behind it.
func spoilAll[T any](list []T, with T) {
	_ = append(list, with)
	whole := list[:cap(list)]
	for i := range whole {
		whole[i] = with
	}
}
