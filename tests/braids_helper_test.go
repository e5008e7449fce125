package tests

import (
	"fmt"
	"slices"
	"strings"
	"sync"
	"testing"

	"loop.example/foxcalculus/impl"
)

type braid = impl.Braid

const allBraidLetters = "xyzXYZ"

// imagesOfLetter are the words that each letter of a braid puts for the generators.
var imagesOfLetter = map[string][]string{
	"x": {"abA", "a", "c", "d"}, "y": {"a", "bcB", "b", "d"}, "z": {"a", "b", "cdC", "c"},
	"X": {"b", "Bab", "c", "d"}, "Y": {"a", "c", "Cbc", "d"}, "Z": {"a", "b", "d", "Dcd"},
}

func braidWith(strands int, word string) braid {
	return braid{Strands: strands, Word: word}
}

func braidsWith(strands int, words ...string) []braid {
	var list []braid
	for _, s := range words {
		list = append(list, braidWith(strands, s))
	}
	return list
}

// withBehind returns the braid with more letters behind.
func withBehind(b braid, word string) braid {
	return braidWith(b.Strands, b.Word+word)
}

// lettersOf returns the letters that a braid of 2 to 4 strands may have.
func lettersOf(strands int) string {
	return "xyz"[:strands-1] + "XYZ"[:strands-1]
}

func isBraidSlowly(b braid) bool {
	switch b.Strands {
	case 2, 3, 4:
		return len(b.Word) <= 30 && strings.Trim(b.Word, lettersOf(b.Strands)) == ""
	}
	return false
}

// actSlowly returns the word to which a braid acts on a word, and whether all on the way are words.
func actSlowly(b braid, w string) (string, bool) {
	for _, sign := range strings.Split(b.Word, "") {
		w = putSlowly(w, imagesOfLetter[sign])
		if len(w) > 60 {
			return "", false
		}
	}
	return w, true
}

// actsSlowly returns the words to which a braid acts on its first generators, and whether all are told.
func actsSlowly(b braid) ([]string, bool) {
	var list []string
	for _, generator := range generators[:b.Strands] {
		w, told := actSlowly(b, generator)
		if !told {
			return nil, false
		}
		list = append(list, w)
	}
	return list, true
}

// permSlowly follows each strand from the place where it begins.
func permSlowly(b braid) []int {
	var ends []int
	for place := range b.Strands {
		for _, sign := range strings.ToLower(b.Word) {
			switch place {
			case strings.IndexRune("xyz", sign):
				place++
			case strings.IndexRune("xyz", sign) + 1:
				place--
			}
		}
		ends = append(ends, place)
	}
	return ends
}

// turnBraidSlowly returns the letters of a braid in the opposite order, upper ones as lower ones and these as upper ones.
func turnBraidSlowly(b braid) braid {
	turned := ""
	for _, sign := range strings.Split(b.Word, "") {
		if upper := strings.ToUpper(sign); upper != sign {
			turned = upper + turned
		} else {
			turned = strings.ToLower(sign) + turned
		}
	}
	return braidWith(b.Strands, turned)
}

func braidSumSlowly(b braid) int {
	sum := 0
	for _, sign := range []string{"x", "y", "z"} {
		sum += strings.Count(b.Word, sign) - strings.Count(b.Word, strings.ToUpper(sign))
	}
	return sum
}

func braidMatrixSlowly(b braid) (matrix, bool) {
	words, told := actsSlowly(b)
	if !told {
		return nil, false
	}
	return matrixWith(b.Strands, b.Strands, func(i, k int) (poly, bool) {
		return polyOfSumSlowly(foxSlowly(words[i], k)).told()
	})
}

func braidGroupSlowly(b braid) (group, bool) {
	words, told := actsSlowly(b)
	if !told {
		return group{}, false
	}
	closed := groupWith(b.Strands)
	for i, w := range words[:b.Strands-1] {
		closed.Rels = append(closed.Rels, reduceSlowly(w+strings.ToUpper(generators[i])))
	}
	return closed, isGroupSlowly(closed)
}

func braidPolySlowly(b braid) (poly, bool) {
	closed, told := braidGroupSlowly(b)
	if !told {
		return poly{}, false
	}
	return groupPolySlowly(closed, 0), true
}

// isKnotSlowly reports whether the places that are reached from the place 0 are all.
func isKnotSlowly(b braid) bool {
	ends, reached := permSlowly(b), []int{}
	for place := 0; !slices.Contains(reached, place); place = ends[place] {
		reached = append(reached, place)
	}
	return len(reached) == b.Strands
}

// growSlowly returns the braid with a strand more, and whether it is one.
func growSlowly(b braid, back bool) (braid, bool) {
	last := map[int]string{2: "y", 3: "z"}[b.Strands]
	if back {
		last = strings.ToUpper(last)
	}
	grown := braidWith(b.Strands+1, b.Word+last)
	return grown, isBraidSlowly(grown)
}

// wrongOrder returns the number of pairs in which the greater number is ahead.
func wrongOrder(list []int) int {
	n := 0
	for i, x := range list {
		for _, y := range list[i+1:] {
			if x > y {
				n++
			}
		}
	}
	return n
}

// shortBraids returns all braids of a few letters, those with a letter next to its own inverse among them.
func shortBraids() []braid {
	return slices.Concat(braidsWith(2, textsOf("xX", 4)...), braidsWith(3, textsOf("xyXY", 3)...), braidsWith(4, textsOf("xyzXYZ", 2)...))
}

// scatteredBraid returns a braid with so many letters, others for each number.
func scatteredBraid(strands, letters, n int) braid {
	state := uint32(n*100000 + strands*1000 + letters)
	b, from := braidWith(strands, ""), lettersOf(strands)
	for range letters {
		state = state*1664525 + 1013904223
		b.Word += string(from[int(state>>8)%len(from)])
	}
	return b
}

// scatteredBraids returns braids of any number of strands with so many letters.
func scatteredBraids(letters, count int) []braid {
	var list []braid
	for strands := 2; strands <= 4; strands++ {
		for n := range count {
			list = append(list, scatteredBraid(strands, letters, n))
		}
	}
	return list
}

// knottedBraids returns braids whose closings are knots and links.
func knottedBraids() []braid {
	return slices.Concat(
		braidsWith(2, "", "x", "X", "xx", "XX", "xxx", "XXX", "xxxx", "xxxxx", "XXXXXXX", "xX"),
		braidsWith(3, "", "x", "y", "xy", "xY", "XY", "YX", "xx", "xxyy", "xxYY", "xYxY", "XyXy", "xxxyXy", "xYxYY", "xYxYxY", "xyxyxyxy", "xyxyxy", "xyx", "xxyyxxyy", "xxxYxY", "xxYxYY", "xYxYxYxY"),
		braidsWith(4, "", "xz", "xyz", "XYZ", "xYz", "zyx", "xxyXZyZ", "xxyyzz", "xyzxyzxyz", "xyzxyzxyzxyz", "xYzxYz", "xYzY", "xzxz", "xxzz", "yxzy", "xYzYxYzY"))
}

// longBraids returns braids that meet the limits: of letters, and of what they make of words.
func longBraids() []braid {
	var list []braid
	for _, n := range []int{6, 13, 14, 15, 27, 28, 29, 30} {
		list = append(list, braidsWith(2, times("x", n), times("X", n))...)
		list = append(list, braidsWith(3, times("x", n), times("Y", n))...)
		list = append(list, braidsWith(4, times("y", n), times("Z", n))...)
	}
	for _, s := range []string{"xy", "xY", "xxyy", "yX", "YYX"} {
		list = append(list, braidsWith(3, times(s, 3), times(s, 30/len(s)), times(s, 4)+turnBraidSlowly(braidWith(3, times(s, 3))).Word)...)
	}
	for _, s := range []string{"xyz", "xYz", "zxY", "xzy", "xzYY"} {
		list = append(list, braidsWith(4, times(s, 3), times(s, 30/len(s)), times(s, 4)+turnBraidSlowly(braidWith(4, times(s, 3))).Word)...)
	}
	list = append(list, braidsWith(2, times("xX", 15), times("Xx", 15), times("x", 15)+times("X", 15))...)
	list = append(list, braidsWith(3, times("yY", 15), times("xyYX", 7)+"xy", times("xyx", 5)+times("YXY", 5))...)
	list = append(list, braidsWith(4, times("zZ", 15), times("xzXZ", 7)+"yz", times("xyzZYX", 5))...)
	return slices.Concat(list, scatteredBraids(30, 12), scatteredBraids(29, 3), scatteredBraids(15, 8))
}

// allBraids are braids of all kinds, made once, as this takes long.
var allBraids = sync.OnceValue(func() []braid {
	list := slices.Concat(shortBraids(), knottedBraids(), longBraids(), scatteredBraids(6, 12), scatteredBraids(9, 12), scatteredBraids(20, 6))
	for _, b := range list {
		if !isBraidSlowly(b) {
			panic(briefBraid(b) + " is no braid")
		}
	}
	return list
})

// noStrands returns braids with a number of strands that is none.
func noStrands() []braid {
	var list []braid
	for _, strands := range append(outside(4), 1, 6, 8, 256+3, 1<<32+2, 1<<32+4, -1<<32+3, 1<<62+2, -3) {
		list = append(list, braidsWith(strands, "", "x", "X", "xX", "y", "a", "xyzXYZ", "w", times("x", 30), times("x", 31))...)
	}
	return list
}

// noBraids are braids that are not as told, made once, as this takes long.
var noBraids = sync.OnceValue(func() []braid {
	list := noStrands()
	for strands := 2; strands <= 4; strands++ {
		letters := lettersOf(strands)
		for n := range 256 {
			sign := string([]byte{byte(n)})
			if !strings.Contains(letters, sign) {
				list = append(list, braidsWith(strands, sign, sign+"x", "X"+sign, "x"+sign+"x", times("x", 29)+sign, sign+times("X", 29))...)
			}
		}
		for _, s := range []string{"x", "X", "xX", letters} {
			list = append(list, braidsWith(strands, times(s, 31)[:31], times(s, 32), times(s, 256), times(s, 256)+"x", times(s, 30000))...)
		}
		list = append(list, braidsWith(strands, "x y", "xä", "ä", "日本", "x\n", "xw", "abAB", "ab", "xyzXYZw", "xyz{", times("x", 31)+"a")...)
	}
	return append(list, braidsWith(2, "xy", "xyX", "Yx", "zx", "xZX", times("x", 29)+"y")...)
})

// eachOwnLetter calls f with each letter alone, for each number of strands that has it.
func eachOwnLetter(f func(strands int, sign string)) {
	for strands := 2; strands <= 4; strands++ {
		for _, sign := range strings.Split(lettersOf(strands), "") {
			f(strands, sign)
		}
	}
}

// briefBraid tells a braid in not too many signs.
func briefBraid(b braid) string {
	return fmt.Sprintf("<%d: %.70q> (%d letters)", b.Strands, b.Word, len(b.Word))
}

func callOfBraids(name string, list ...braid) string {
	var texts []string
	for _, b := range list {
		texts = append(texts, briefBraid(b))
	}
	return name + " of " + strings.Join(texts, " and ")
}

func wantBraid(t *testing.T, call string, got braid, ok bool, want braid) {
	t.Helper()
	if !ok || got != want {
		t.Errorf("%s returned %s, %v, not %s", call, briefBraid(got), ok, briefBraid(want))
	}
}

func wantNoBraid(t *testing.T, call string, got braid, ok bool) {
	t.Helper()
	if ok || got != (braid{}) {
		t.Errorf("%s returned %s, %v: it must fail", call, briefBraid(got), ok)
	}
}

// wantBraidIf wants a braid if it is told, and otherwise a failure.
func wantBraidIf(t *testing.T, call string, got braid, ok bool, want braid, told bool) {
	t.Helper()
	if told {
		wantBraid(t, call, got, ok, want)
	} else {
		wantNoBraid(t, call, got, ok)
	}
}

// wantTextIf wants a text if it is told, and otherwise a failure.
func wantTextIf(t *testing.T, call string, got string, ok bool, want string, told bool) {
	t.Helper()
	if told {
		wantText(t, call, got, ok, want)
	} else {
		wantFailure(t, call, got, ok)
	}
}

// wantAct wants what a braid does to a word, or a failure. It returns whether it is told.
func wantAct(t *testing.T, b braid, w string) bool {
	t.Helper()
	got, ok := impl.BraidAct(b, w)
	want, told := actSlowly(b, w)
	wantTextIf(t, fmt.Sprintf("BraidAct of %s on %q", briefBraid(b), w), got, ok, want, told)
	return ok
}

func braidPerm(t *testing.T, b braid) []int {
	t.Helper()
	got, ok := impl.BraidPerm(b)
	if !ok {
		t.Errorf("%s failed", callOfBraids("BraidPerm", b))
	}
	return got
}

func braidTurned(t *testing.T, b braid) braid {
	t.Helper()
	got, ok := impl.BraidTurned(b)
	if !ok {
		t.Errorf("%s failed", callOfBraids("BraidTurned", b))
	}
	return got
}

// wantSameBraidPoly wants the polynomials of two braids to be the same, if both are told. It returns whether they are.
func wantSameBraidPoly(t *testing.T, call string, a, b braid) bool {
	t.Helper()
	first, ok := impl.BraidPoly(a)
	second, also := impl.BraidPoly(b)
	if !ok || !also {
		return false
	}
	wantPoly(t, callOfBraids(call+": BraidPoly", a, b), second, also, first)
	return true
}
