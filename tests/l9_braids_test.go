package tests

import (
	"fmt"
	"math"
	"slices"
	"strings"
	"sync"
	"testing"

	"loop.example/foxcalculus/impl"
)

// Promise 74: If BraidIn holds, BraidAct leaves the product of the first generators, as many as strands, as it is, if told.

func TestPromise74Texts(t *testing.T) {
	held := map[int]int{}
	for strands := -1; strands <= 6; strands++ {
		for _, s := range textsOf("xyzXYZ", 4) {
			b := braidWith(strands, s)
			got := impl.BraidIn(b)
			if got != isBraidSlowly(b) {
				t.Errorf("%s is %v", callOfBraids("BraidIn", b), got)
			}
			if got {
				held[strands]++
			}
		}
	}
	// All texts of at most 4 of 2, 4 and 6 letters.
	if len(held) != 3 || held[2] != 31 || held[3] != 341 || held[4] != 1555 {
		t.Errorf("BraidIn holds so often for numbers of strands: %v", held)
	}
}

func TestPromise74Counts(t *testing.T) {
	eachOwnLetter(func(strands int, sign string) {
		for n := range 70 {
			b := braidWith(strands, times(sign, n))
			if got := impl.BraidIn(b); got != (n <= 30) {
				t.Errorf("%s is %v", callOfBraids("BraidIn", b), got)
			}
		}
	})
}

// The product, and its inverse, is never changed on the way, so that it is told for every braid.
func TestPromise74Products(t *testing.T) {
	for _, b := range allBraids() {
		if !impl.BraidIn(b) {
			t.Errorf("%s does not hold", callOfBraids("BraidIn", b))
		}
		product := "abcd"[:b.Strands]
		for _, w := range []string{product, turnSlowly(product), times(product, 60/b.Strands), times(turnSlowly(product), 3)} {
			got, ok := impl.BraidAct(b, w)
			wantText(t, fmt.Sprintf("BraidAct of %s on %q", briefBraid(b), w), got, ok, w)
		}
	}
}

func TestPromise74Invalid(t *testing.T) {
	for _, b := range noBraids() {
		if isBraidSlowly(b) {
			t.Fatalf("%s is a braid", briefBraid(b))
		}
		if impl.BraidIn(b) {
			t.Errorf("%s holds", callOfBraids("BraidIn", b))
		}
	}
	for _, strands := range []int{0, 1, 5, -1, -2, math.MaxInt, math.MinInt} {
		if impl.BraidIn(braidWith(strands, "")) || impl.BraidIn(braidWith(strands, "x")) {
			t.Errorf("BraidIn of %d strands holds", strands)
		}
	}
}

// Promise 75: If BraidIn holds for at least 3 strands, with at most 27 letters, the braid with xyx and that with yxy behind act on ab in the same way, if told.

// wantSameActs wants braids with other letters behind to act on words in the same way, if told. It returns how often they are.
func wantSameActs(t *testing.T, b braid, first, second string, words ...string) int {
	t.Helper()
	told := 0
	for _, w := range words {
		one, ok := impl.BraidAct(withBehind(b, first), w)
		other, also := impl.BraidAct(withBehind(b, second), w)
		if !ok || !also {
			continue
		}
		told++
		if one != other {
			t.Errorf("%s acts on %q to %q with %s behind, and to %q with %s", briefBraid(b), w, one, first, other, second)
		}
	}
	return told
}

func TestPromise75Braids(t *testing.T) {
	told := 0
	for _, b := range allBraids() {
		if b.Strands == 2 || len(b.Word) > 27 {
			continue
		}
		told += wantSameActs(t, b, "xyx", "yxy", "ab", "a", "b", "c", "Ca")
		told += wantSameActs(t, b, "XYX", "YXY", "ab", "a", "b", "c", "Ca")
		told += wantSameActs(t, b, "xyX", "Yxy", "ab", "a", "b", "c", "Ca")
		if b.Strands == 4 {
			told += wantSameActs(t, b, "yzy", "zyz", "ab", "bc", "c", "d")
		}
	}
	if told < 3000 {
		t.Errorf("only %d words were told for both", told)
	}
}

func TestPromise75Limits(t *testing.T) {
	for _, strands := range []int{3, 4} {
		for _, s := range []string{times("xX", 13) + "x", "Yx" + times("yY", 12) + "X", times("xyYX", 6) + "xyx"} {
			if wantSameActs(t, braidWith(strands, s), "xyx", "yxy", "ab", "a", "b", "c") == 0 {
				t.Errorf("%s with 3 letters more is never told", briefBraid(braidWith(strands, s)))
			}
		}
		for _, s := range []string{times("xX", 14) + "xyx", times("xX", 14) + "yxy"} {
			got, ok := impl.BraidAct(braidWith(strands, s), "ab")
			wantFailure(t, callOfBraids("BraidAct", braidWith(strands, s)), got, ok)
		}
	}
}

// 2 strands have no letter y.
func TestPromise75Invalid(t *testing.T) {
	for _, s := range textsOf("xX", 4) {
		for _, more := range []string{"xyx", "yxy", "XYX", "Y"} {
			got, ok := impl.BraidAct(braidWith(2, s+more), "ab")
			wantFailure(t, callOfBraids("BraidAct", braidWith(2, s+more)), got, ok)
		}
	}
}

// Promise 76: If BraidIn holds for 4 strands, with at most 28 letters, the braid with xz and that with zx behind act on abc in the same way, if told.

func TestPromise76Braids(t *testing.T) {
	told := 0
	for _, b := range allBraids() {
		if b.Strands == 4 && len(b.Word) <= 28 {
			for _, pair := range [][2]string{{"xz", "zx"}, {"xZ", "Zx"}, {"Xz", "zX"}, {"XZ", "ZX"}} {
				told += wantSameActs(t, b, pair[0], pair[1], "abc", "a", "b", "c", "d", "cA")
			}
		}
	}
	if told < 2000 {
		t.Errorf("only %d words were told for both", told)
	}
}

func TestPromise76Limits(t *testing.T) {
	for _, s := range []string{times("zZ", 14), times("xZzX", 7), times("xzXZ", 7), times("yxXY", 6) + "zyxy"} {
		if wantSameActs(t, braidWith(4, s), "xz", "zx", "abc", "a", "b", "c", "d") == 0 {
			t.Errorf("%s with 2 letters more is never told", briefBraid(braidWith(4, s)))
		}
	}
	got, ok := impl.BraidAct(braidWith(4, times("zZ", 14)+"zxz"), "abc")
	wantFailure(t, "BraidAct of 31 letters", got, ok)
}

// 2 and 3 strands have no letter z.
func TestPromise76Invalid(t *testing.T) {
	for _, strands := range []int{2, 3} {
		for _, more := range []string{"xz", "zx", "XZ", "z", "Z"} {
			got, ok := impl.BraidAct(braidWith(strands, "x"+more), "abc")
			wantFailure(t, callOfBraids("BraidAct", braidWith(strands, "x"+more)), got, ok)
		}
	}
}

// Promise 77: If BraidTimes succeeds, its sum is both together, its permutation that of the first one and then of the second one, and it acts as both in turn, if told.

// wantInTurnActs wants a product of braids to act on words as both in turn. It returns how often this is told.
func wantInTurnActs(t *testing.T, product, a, b braid, words ...string) int {
	t.Helper()
	told := 0
	for _, w := range words {
		call := fmt.Sprintf("%s on %q", callOfBraids("BraidAct of both", a, b), w)
		got, ok := impl.BraidAct(product, w)
		first, also := impl.BraidAct(a, w)
		if !also {
			wantFailure(t, call, got, ok)
			continue
		}
		second, also := impl.BraidAct(b, first)
		wantTextIf(t, call, got, ok, second, also)
		if ok {
			told++
		}
	}
	return told
}

// wantBraidTimes wants the product of two braids, or a failure. It returns whether it is told, and how often words are.
func wantBraidTimes(t *testing.T, a, b braid) (bool, int) {
	t.Helper()
	call := callOfBraids("BraidTimes", a, b)
	got, ok := impl.BraidTimes(a, b)
	want := braidWith(a.Strands, a.Word+b.Word)
	wantBraidIf(t, call, got, ok, want, a.Strands == b.Strands && isBraidSlowly(want))
	if !ok {
		return false, 0
	}
	sum, fine := impl.BraidSum(got)
	wantNumber(t, call+": the sum", sum, fine, braidSumSlowly(a)+braidSumSlowly(b))
	first, second := braidPerm(t, a), braidPerm(t, b)
	var ends []int
	for _, place := range first {
		ends = append(ends, second[place])
	}
	wantNumbers(t, call+": the permutation", braidPerm(t, got), true, ends)
	return true, wantInTurnActs(t, got, a, b, "a", "B", "cd", "bA")
}

func TestPromise77Braids(t *testing.T) {
	all := allBraids()
	told, failed, words := 0, 0, 0
	for n, a := range all {
		for k := range 6 {
			ok, times := wantBraidTimes(t, a, all[(n*(k+2)+k*k*37)%len(all)])
			words += times
			if ok {
				told++
			} else {
				failed++
			}
		}
	}
	if told < 500 || failed < 500 || words < 1000 {
		t.Errorf("%d products were told, %d failed, and %d words were told", told, failed, words)
	}
}

func TestPromise77Short(t *testing.T) {
	for strands := 2; strands <= 4; strands++ {
		list := braidsWith(strands, textsOf(lettersOf(strands), 6-strands)...)
		for n, a := range list {
			for k := range min(len(list), 24) {
				if ok, _ := wantBraidTimes(t, a, list[(n+k*k)%len(list)]); !ok {
					t.Errorf("%s failed", callOfBraids("BraidTimes", a, list[(n+k*k)%len(list)]))
				}
			}
		}
	}
}

func TestPromise77Examples(t *testing.T) {
	for _, x := range []struct {
		strands     int
		a, b, joint string
	}{
		{2, "", "", ""}, {2, "x", "", "x"}, {2, "", "X", "X"}, {3, "xy", "yX", "xyyX"}, {4, "z", "xYz", "zxYz"},
		// Letters next to their own inverses stay.
		{2, "x", "X", "xX"}, {2, "xX", "Xx", "xXXx"}, {3, "xy", "YX", "xyYX"}, {4, "zZ", "Zz", "zZZz"},
		{2, times("x", 15), times("X", 15), times("x", 15) + times("X", 15)}, {3, times("xyY", 5), times("Y", 15), times("xyY", 5) + times("Y", 15)}, {4, times("xyz", 5), times("XYZ", 5), times("xyz", 5) + times("XYZ", 5)}, {3, times("xy", 15), "", times("xy", 15)}, {4, "", times("zX", 15), times("zX", 15)}, {2, times("x", 29), "x", times("x", 30)}, {2, "X", times("X", 29), times("X", 30)}, {4, times("z", 14), times("y", 16), times("z", 14) + times("y", 16)},
	} {
		got, ok := impl.BraidTimes(braidWith(x.strands, x.a), braidWith(x.strands, x.b))
		wantBraid(t, fmt.Sprintf("BraidTimes of %q and %q", x.a, x.b), got, ok, braidWith(x.strands, x.joint))
	}
}

// More than 30 letters, and unlike numbers of strands.
func TestPromise77Failures(t *testing.T) {
	for strands := 2; strands <= 4; strands++ {
		for _, counts := range [][2]int{{30, 1}, {1, 30}, {15, 16}, {16, 15}, {30, 30}, {29, 2}} {
			for _, sign := range []string{"x", "X"} {
				got, ok := impl.BraidTimes(braidWith(strands, times(sign, counts[0])), braidWith(strands, times("X", counts[1])))
				wantNoBraid(t, fmt.Sprintf("BraidTimes of %d and %d letters", counts[0], counts[1]), got, ok)
			}
		}
		for other := 2; other <= 4; other++ {
			for _, s := range []string{"", "x", "xX", times("x", 15)} {
				got, ok := impl.BraidTimes(braidWith(strands, s), braidWith(other, s))
				wantBraidIf(t, fmt.Sprintf("BraidTimes of %d and %d strands", strands, other), got, ok, braidWith(strands, s+s), strands == other)
			}
		}
	}
}

func TestPromise77Invalid(t *testing.T) {
	for _, b := range noBraids() {
		for _, other := range []braid{b, braidWith(b.Strands, ""), braidWith(b.Strands, "x"), braidWith(2, ""), braidWith(3, "xy"), braidWith(4, "")} {
			got, ok := impl.BraidTimes(b, other)
			wantNoBraid(t, callOfBraids("BraidTimes", b, other), got, ok)
			got, ok = impl.BraidTimes(other, b)
			wantNoBraid(t, callOfBraids("BraidTimes", other, b), got, ok)
		}
	}
}

// Promise 78: If BraidTurned succeeds, it leads back, and acts back what the braid does to ba, if told.

func TestPromise78Braids(t *testing.T) {
	told := 0
	for _, b := range allBraids() {
		call := callOfBraids("BraidTurned", b)
		got, ok := impl.BraidTurned(b)
		wantBraid(t, call, got, ok, turnBraidSlowly(b))
		wantBraid(t, call+" twice", braidTurned(t, got), true, b)
		for _, w := range []string{"ba", "a", "bC", "dcbA"} {
			there, ok := impl.BraidAct(b, w)
			if !ok {
				continue
			}
			// All words on the way back were words on the way there.
			told++
			back, ok := impl.BraidAct(got, there)
			wantText(t, fmt.Sprintf("%s: it on what the braid makes of %q", call, w), back, ok, w)
		}
	}
	if told < 1500 {
		t.Errorf("only %d words were told", told)
	}
}

func TestPromise78Examples(t *testing.T) {
	for _, x := range []struct {
		strands int
		s, want string
	}{
		{2, "", ""}, {3, "", ""}, {4, "", ""}, {2, "x", "X"}, {2, "X", "x"}, {3, "y", "Y"}, {3, "Y", "y"}, {4, "z", "Z"}, {4, "Z", "z"}, {2, "xX", "xX"}, {2, "Xx", "Xx"}, {2, "xxX", "xXX"}, {3, "xy", "YX"}, {3, "xY", "yX"}, {4, "xyz", "ZYX"}, {4, "xYzzX", "xZZyX"}, {2, times("x", 30), times("X", 30)}, {4, times("xyZ", 10), times("zYX", 10)}, {3, times("x", 29) + "Y", "y" + times("X", 29)},
	} {
		got, ok := impl.BraidTurned(braidWith(x.strands, x.s))
		wantBraid(t, fmt.Sprintf("BraidTurned of %q", x.s), got, ok, braidWith(x.strands, x.want))
	}
}

func TestPromise78Invalid(t *testing.T) {
	for _, b := range noBraids() {
		got, ok := impl.BraidTurned(b)
		wantNoBraid(t, callOfBraids("BraidTurned", b), got, ok)
	}
}

// Promise 79: If BraidAct succeeds, that on the inverse is its inverse, and that on the word twice, if told, is it twice.

func TestPromise79Words(t *testing.T) {
	words := slices.Concat(allWords(2), longWords(), evenLong(), []string{"ba", "abc", "dcba", "ab", "BA"})
	told, failed, twice := 0, 0, 0
	for n, b := range allBraids() {
		for k := range 10 {
			w := words[(n*10+k)%len(words)]
			got, ok := impl.BraidAct(b, w)
			call := fmt.Sprintf("BraidAct of %s on %q", briefBraid(b), w)
			turned, also := impl.BraidAct(b, turnSlowly(w))
			wantTextIf(t, call+", of the inverse,", turned, also, turnSlowly(got), ok)
			if !wantAct(t, b, w) {
				failed++
				continue
			}
			told++
			double, ok := impl.BraidAct(b, reduceSlowly(w+w))
			if ok && len(w) <= 30 {
				twice++
				wantText(t, call+", twice,", double, ok, reduceSlowly(got+got))
			}
		}
	}
	if told < 2000 || failed < 1000 || twice < 1500 {
		t.Errorf("%d words were told, %d failed, and %d were told twice", told, failed, twice)
	}
}

// Each letter and each inverse letter alone, on each generator and on its inverse.
func TestPromise79Letters(t *testing.T) {
	count := 0
	eachOwnLetter(func(strands int, sign string) {
		for g, generator := range generators {
			count++
			want := imagesOfLetter[sign][g]
			got, ok := impl.BraidAct(braidWith(strands, sign), generator)
			wantText(t, fmt.Sprintf("BraidAct of %q on %q", sign, generator), got, ok, want)
			got, ok = impl.BraidAct(braidWith(strands, sign), strings.ToUpper(generator))
			wantText(t, fmt.Sprintf("BraidAct of %q on the inverse of %q", sign, generator), got, ok, turnSlowly(want))
		}
	})
	if count != 48 {
		t.Errorf("%d letters were looked at", count)
	}
}

func TestPromise79Examples(t *testing.T) {
	for _, x := range []struct {
		strands    int
		s, w, want string
	}{
		// The second letter acts on what the first one made.
		{3, "xy", "a", "abcBA"}, {3, "xy", "b", "a"}, {3, "xy", "c", "b"}, {3, "yx", "a", "abA"}, {3, "yx", "b", "acA"}, {3, "yx", "c", "a"}, {3, "xY", "a", "acA"}, {3, "XY", "b", "Cac"}, {4, "xyz", "a", "abcdCBA"}, {4, "XYZ", "a", "d"},
		{2, "xx", "a", "abaBA"}, {2, "xx", "b", "abA"}, {2, "XX", "a", "Bab"}, {2, "XX", "b", "BAbab"}, {2, "xxx", "ab", "ab"},
		// Without letters, with a letter next to its own inverse, and the empty word.
		{2, "", "", ""}, {2, "", "abAB", "abAB"}, {4, "", times("dC", 30), times("dC", 30)}, {2, "xX", "a", "a"}, {3, "Yy", "bC", "bC"}, {4, "xyzZYX", "abcd", "abcd"}, {2, "x", "", ""}, {3, times("xY", 15), "", ""}, {4, times("xYz", 10), "", ""},
		// Generators beyond the strands.
		{2, "x", "c", "c"}, {2, "X", "cD", "cD"}, {2, "x", "cad", "cabAd"}, {3, "xyYX", "d", "d"}, {3, "y", "DbD", "DbcBD"}, {2, times("x", 30), times("dC", 30), times("dC", 30)}, {2, times("x", 30), "c", "c"},
		// Words of LettersMax letters, and such as become them.
		{2, "x", times("ab", 30), times("ab", 30)}, {2, times("xX", 15), times("BA", 30), times("BA", 30)}, {2, "x", times("b", 60), times("a", 60)}, {2, "X", times("a", 60), times("b", 60)}, {2, "x", times("a", 58), "a" + times("b", 58) + "A"}, {2, "X", times("B", 58), "B" + times("A", 58) + "b"}, {2, "Xx", times("a", 60), times("a", 60)}, {3, "xy", times("cb", 30), times("ba", 30)}, {4, "zyx", times("bcd", 20), times("acd", 20)}, {4, "Z", times("DC", 30), times("DC", 30)},
	} {
		got, ok := impl.BraidAct(braidWith(x.strands, x.s), x.w)
		wantText(t, fmt.Sprintf("BraidAct of %q on %q", x.s, x.w), got, ok, x.want)
	}
}

// Words with too many letters at the end, and such on the way, though the last one would have fewer.
func TestPromise79Failures(t *testing.T) {
	for _, x := range []struct {
		strands int
		s, w    string
	}{
		{2, "x", times("a", 60)}, {2, "x", times("a", 59)}, {2, "X", times("b", 59)}, {2, "X", times("b", 60)}, {3, "y", times("B", 60)}, {4, "z", times("c", 59)}, {4, "Z", times("D", 59)}, {2, "x", times("aC", 30)}, {2, times("x", 30), "a"}, {2, times("X", 30), "b"}, {3, times("xY", 5), "a"}, {4, times("xYz", 10), "a"},
		{2, "xX", times("a", 59)}, {2, "xX", times("a", 60)}, {2, "Xx", times("b", 60)}, {3, "yY", times("b", 59)}, {4, "Zz", times("d", 60)}, {2, "xXxX", times("A", 60)}, {2, times("xX", 15), times("A", 59)}, {3, times("xY", 5) + times("yX", 5), "a"}, {3, times("xY", 7) + times("yX", 7), "b"}, {4, times("xYz", 5) + times("ZyX", 5), "c"}, {2, "xxX", times("a", 57)},
	} {
		got, ok := impl.BraidAct(braidWith(x.strands, x.s), x.w)
		wantFailure(t, fmt.Sprintf("BraidAct of %q on %q", x.s, x.w), got, ok)
		wantAct(t, braidWith(x.strands, x.s), x.w)
	}
}

func TestPromise79Invalid(t *testing.T) {
	for _, b := range noBraids() {
		for _, w := range []string{"", "a", "ab", "aA"} {
			got, ok := impl.BraidAct(b, w)
			wantFailure(t, fmt.Sprintf("BraidAct of %s on %q", briefBraid(b), w), got, ok)
		}
	}
	for _, w := range noWords() {
		for _, b := range []braid{braidWith(2, ""), braidWith(2, "x"), braidWith(3, "xY"), braidWith(4, "zZ"), braidWith(5, "")} {
			got, ok := impl.BraidAct(b, w)
			wantFailure(t, fmt.Sprintf("BraidAct of %s on %.70q", briefBraid(b), w), got, ok)
		}
	}
}

// Promise 80: If BraidPerm succeeds, the cores of the words to which the braid acts on the generators, if told, are single generators, each one once.

func TestPromise80Braids(t *testing.T) {
	told, moved := 0, map[int]int{}
	for _, b := range allBraids() {
		call := callOfBraids("BraidPerm", b)
		ends, ok := impl.BraidPerm(b)
		wantNumbers(t, call, ends, ok, permSlowly(b))
		away := 0
		for place, end := range ends {
			if end != place {
				away++
			}
			w, ok := impl.BraidAct(b, generators[place])
			if !ok {
				continue
			}
			told++
			core, ok := impl.WordCore(w)
			wantText(t, fmt.Sprintf("%s: the core for %d", call, place), core, ok, generators[end])
		}
		moved[b.Strands*10+away]++
	}
	// No place is moved, all are, and some are.
	for _, kind := range []int{20, 22, 30, 32, 33, 40, 42, 43, 44} {
		if moved[kind] < 5 {
			t.Errorf("only %d braids of %d strands move %d places", moved[kind], kind/10, kind%10)
		}
	}
	if told < 1000 {
		t.Errorf("only %d words were told", told)
	}
}

func TestPromise80Examples(t *testing.T) {
	for _, x := range []struct {
		b    braid
		want []int
	}{
		{braidWith(2, ""), []int{0, 1}}, {braidWith(3, ""), []int{0, 1, 2}}, {braidWith(4, ""), []int{0, 1, 2, 3}}, {braidWith(2, "x"), []int{1, 0}}, {braidWith(2, "X"), []int{1, 0}}, {braidWith(2, "xx"), []int{0, 1}}, {braidWith(2, "xX"), []int{0, 1}}, {braidWith(3, "x"), []int{1, 0, 2}}, {braidWith(3, "Y"), []int{0, 2, 1}}, {braidWith(4, "z"), []int{0, 1, 3, 2}}, {braidWith(4, "Y"), []int{0, 2, 1, 3}}, {braidWith(4, "x"), []int{1, 0, 2, 3}},
		// All places move, and in an order that the opposite one would tell.
		{braidWith(3, "xy"), []int{2, 0, 1}}, {braidWith(3, "yx"), []int{1, 2, 0}}, {braidWith(3, "XY"), []int{2, 0, 1}}, {braidWith(4, "xyz"), []int{3, 0, 1, 2}}, {braidWith(4, "zyx"), []int{1, 2, 3, 0}}, {braidWith(4, "xz"), []int{1, 0, 3, 2}}, {braidWith(4, "xYzxYx"), []int{3, 2, 1, 0}}, {braidWith(4, "yxzy"), []int{2, 3, 0, 1}}, {braidWith(4, "xzy"), []int{2, 0, 3, 1}},
		// Some stay.
		{braidWith(3, "xyx"), []int{2, 1, 0}}, {braidWith(4, "xy"), []int{2, 0, 1, 3}}, {braidWith(4, "yz"), []int{0, 3, 1, 2}}, {braidWith(4, "xyzyx"), []int{3, 1, 2, 0}}, {braidWith(4, "yzY"), []int{0, 3, 2, 1}},
		{braidWith(2, times("x", 30)), []int{0, 1}}, {braidWith(2, times("X", 29)), []int{1, 0}}, {braidWith(3, times("xY", 15)), []int{0, 1, 2}}, {braidWith(4, times("xYz", 10)), []int{2, 3, 0, 1}}, {braidWith(3, times("xy", 7)), []int{2, 0, 1}},
	} {
		got, ok := impl.BraidPerm(x.b)
		wantNumbers(t, callOfBraids("BraidPerm", x.b), got, ok, x.want)
	}
}

func TestPromise80Invalid(t *testing.T) {
	for _, b := range noBraids() {
		got, ok := impl.BraidPerm(b)
		wantNoNumbers(t, callOfBraids("BraidPerm", b), got, ok)
	}
}

// Promise 81: If BraidSum succeeds, it is even exactly if the permutation has an even number of pairs in the wrong order.

func TestPromise81Braids(t *testing.T) {
	kinds := map[string]int{}
	for _, b := range allBraids() {
		got, ok := impl.BraidSum(b)
		wantNumber(t, callOfBraids("BraidSum", b), got, ok, braidSumSlowly(b))
		if pairs := wrongOrder(braidPerm(t, b)); (got-pairs)%2 != 0 {
			t.Errorf("%s is %d, and %d pairs are in the wrong order", callOfBraids("BraidSum", b), got, pairs)
		}
		switch {
		case got == 0:
			kinds["0"]++
		case got > 0:
			kinds["above"]++
		default:
			kinds["below"]++
		}
	}
	if kinds["0"] < 80 || kinds["above"] < 100 || kinds["below"] < 100 {
		t.Errorf("so many sums are 0, above and below: %v", kinds)
	}
}

func TestPromise81Examples(t *testing.T) {
	for _, x := range []struct {
		b    braid
		want int
	}{
		{braidWith(2, ""), 0}, {braidWith(4, ""), 0}, {braidWith(2, "xX"), 0}, {braidWith(3, "xY"), 0}, {braidWith(4, "xZyX"), 0}, {braidWith(2, "x"), 1}, {braidWith(3, "y"), 1}, {braidWith(4, "z"), 1}, {braidWith(2, "X"), -1}, {braidWith(3, "Y"), -1}, {braidWith(4, "Z"), -1}, {braidWith(4, "xyz"), 3}, {braidWith(4, "XYZ"), -3}, {braidWith(4, "xyZ"), 1}, {braidWith(3, "XYx"), -1}, {braidWith(2, times("x", 30)), 30}, {braidWith(4, times("Z", 30)), -30}, {braidWith(3, times("xY", 15)), 0}, {braidWith(4, times("xyZ", 10)), 10}, {braidWith(4, times("XyZ", 10)), -10},
	} {
		got, ok := impl.BraidSum(x.b)
		wantNumber(t, callOfBraids("BraidSum", x.b), got, ok, x.want)
	}
}

func TestPromise81Invalid(t *testing.T) {
	for _, b := range noBraids() {
		got, ok := impl.BraidSum(b)
		wantNoNumber(t, callOfBraids("BraidSum", b), got, ok)
	}
}

// Promise 82: If BraidMatrix succeeds, the sum of each row is 1, and the determinant, if told, is alike 1.

func TestPromise82Braids(t *testing.T) {
	told, failed, dets := map[int]int{}, map[int]int{}, 0
	for _, b := range allBraids() {
		call := callOfBraids("BraidMatrix", b)
		got, ok := impl.BraidMatrix(b)
		want, isTold := braidMatrixSlowly(b)
		wantMatrixIf(t, call, got, ok, want, isTold)
		if !ok {
			failed[b.Strands]++
			continue
		}
		told[b.Strands]++
		for _, row := range got {
			sum, fine := addedSlowly(powersOfAll(row)...)
			wantPoly(t, call+": the sum of a row", sum, fine, number(1))
		}
		det, ok := impl.MatrixDet(got)
		if !ok {
			continue
		}
		dets++
		// It is the opposite of t to the power of the sum, if this is odd.
		sum := braidSumSlowly(b)
		wantPoly(t, call+": the determinant", det, ok, polyWith(sum, 1-2*(sum&1)))
		if !impl.PolyAlike(det, number(1)) {
			t.Errorf("%s: the determinant is %s", call, briefPoly(det))
		}
	}
	for strands := 2; strands <= 4; strands++ {
		if told[strands] < 40 || failed[strands] < 2 || dets < 200 {
			t.Errorf("matrices told %v, failed %v, determinants %d", told, failed, dets)
		}
	}
}

func TestPromise82Examples(t *testing.T) {
	power, back, zero, one := polyWith(1, 1), polyWith(-1, 1), poly{}, number(1)
	oneLess, lessBack := polyWith(0, 1, -1), polyWith(-1, -1, 1)
	for _, x := range []struct {
		b    braid
		want matrix
	}{
		{braidWith(2, ""), ofNumbers(2, 1, 0, 0, 1)}, {braidWith(3, ""), ofNumbers(3, 1, 0, 0, 0, 1, 0, 0, 0, 1)}, {braidWith(2, "xX"), ofNumbers(2, 1, 0, 0, 1)}, {braidWith(4, "yY"), matrixOne(t, 4)},
		{braidWith(2, "x"), inColumns(2, oneLess, power, one, zero)}, {braidWith(2, "X"), inColumns(2, zero, one, back, lessBack)},
		{braidWith(3, "x"), inColumns(3, oneLess, power, zero, one, zero, zero, zero, zero, one)}, {braidWith(3, "y"), inColumns(3, one, zero, zero, zero, oneLess, power, zero, one, zero)}, {braidWith(3, "Y"), inColumns(3, one, zero, zero, zero, zero, one, zero, back, lessBack)},
		{braidWith(4, "z"), inColumns(4, one, zero, zero, zero, zero, one, zero, zero, zero, zero, oneLess, power, zero, zero, one, zero)}, {braidWith(4, "Z"), inColumns(4, one, zero, zero, zero, zero, one, zero, zero, zero, zero, zero, one, zero, zero, back, lessBack)},
		// Of abcBA, a and b.
		{braidWith(3, "xy"), inColumns(3, oneLess, polyWith(1, 1, -1), polyWith(2, 1), one, zero, zero, zero, one, zero)},
		{braidWith(2, "xx"), inColumns(2, polyWith(0, 1, -1, 1), polyWith(1, 1, -1), oneLess, power)}, {braidWith(2, "XX"), inColumns(2, back, lessBack, polyWith(-2, -1, 1), polyWith(-2, 1, -1, 1))},
	} {
		got, ok := impl.BraidMatrix(x.b)
		wantMatrix(t, callOfBraids("BraidMatrix", x.b), got, ok, x.want)
	}
}

// failsOnly are braids for which BraidAct fails on one generator only, the one with this index.
var failsOnly = map[braid]int{
	braidWith(2, times("x", 30)): 0, braidWith(2, times("X", 30)): 1,
	braidWith(3, times("x", 30)): 0, braidWith(3, "xYxYxxxy"): 0, braidWith(3, times("y", 30)): 1, braidWith(3, "XyXyXy"): 1, braidWith(3, times("Y", 30)): 2, braidWith(3, "YYxYYxYY"): 2,
	braidWith(4, "xYYxxyyX"): 0, braidWith(4, "yXyXyX"): 1, braidWith(4, times("z", 30)): 2, braidWith(4, "YzYzYX"): 2, braidWith(4, times("Z", 30)): 3, braidWith(4, "ZyZyyZXy"): 3,
}

// wantFailsOnly wants BraidAct to fail on one generator only, for braids that failsOnly tells.
func wantFailsOnly(t *testing.T) {
	t.Helper()
	for b, g := range failsOnly {
		for k, generator := range generators {
			if wantAct(t, b, generator) != (k != g) {
				t.Errorf("BraidAct of %s does not fail on %s only", briefBraid(b), generators[g])
			}
		}
	}
}

func TestPromise82Failures(t *testing.T) {
	wantFailsOnly(t)
	for b := range failsOnly {
		got, ok := impl.BraidMatrix(b)
		wantNoMatrix(t, callOfBraids("BraidMatrix", b), got, ok)
	}
	for _, b := range []braid{braidWith(3, times("xY", 15)), braidWith(4, times("xYz", 10)), braidWith(3, times("xY", 6)+times("yX", 6))} {
		got, ok := impl.BraidMatrix(b)
		wantNoMatrix(t, callOfBraids("BraidMatrix", b), got, ok)
	}
}

func TestPromise82Invalid(t *testing.T) {
	for _, b := range noBraids() {
		got, ok := impl.BraidMatrix(b)
		wantNoMatrix(t, callOfBraids("BraidMatrix", b), got, ok)
	}
}

// Promise 83: If BraidTimes succeeds, its matrix is the product of that of the first one and that of the second one, if all are told.

// wantMatrixOfBoth wants the matrix of a product of braids to be the product, if all are told. It returns whether they are.
func wantMatrixOfBoth(t *testing.T, a, b braid) bool {
	t.Helper()
	product, ok := impl.BraidTimes(a, b)
	if !ok {
		return false
	}
	whole, ok := impl.BraidMatrix(product)
	first, told := impl.BraidMatrix(a)
	second, also := impl.BraidMatrix(b)
	if !ok || !told || !also {
		return false
	}
	want, told := impl.MatrixTimes(first, second)
	if !told {
		return false
	}
	wantMatrix(t, callOfBraids("BraidMatrix of both", a, b), whole, ok, want)
	return true
}

func TestPromise83Braids(t *testing.T) {
	all, told := allBraids(), map[int]int{}
	for n, a := range all {
		for k := range 12 {
			if wantMatrixOfBoth(t, a, all[(n*(k+2)+k*k*29)%len(all)]) {
				told[a.Strands]++
			}
		}
	}
	if told[2] < 100 || told[3] < 100 || told[4] < 100 {
		t.Errorf("so many matrices were told for numbers of strands: %v", told)
	}
}

func TestPromise83Short(t *testing.T) {
	for strands := 2; strands <= 4; strands++ {
		list := braidsWith(strands, textsOf(lettersOf(strands), 2)...)
		for _, a := range list {
			for _, b := range list {
				if !wantMatrixOfBoth(t, a, b) {
					t.Errorf("%s is not told", callOfBraids("BraidMatrix of both", a, b))
				}
			}
		}
	}
	// Of as many letters together as may be.
	for strands := 2; strands <= 4; strands++ {
		for _, pair := range [][2]string{{times("x", 14), times("x", 15)}, {times("xX", 7) + "x", times("xX", 7) + "X"}, {times("xX", 15), ""}, {times("X", 15), times("x", 15)}} {
			a, b := braidWith(strands, pair[0]), braidWith(strands, pair[1])
			if !wantMatrixOfBoth(t, a, b) {
				t.Errorf("%s is not told", callOfBraids("BraidMatrix of both", a, b))
			}
		}
	}
}

// A product that has no braid has no matrix.
func TestPromise83Invalid(t *testing.T) {
	for strands := 2; strands <= 4; strands++ {
		whole, ok := impl.BraidMatrix(braidWith(strands, times("xX", 15)+"x"))
		wantNoMatrix(t, "BraidMatrix of 31 letters", whole, ok)
		if wantMatrixOfBoth(t, braidWith(strands, times("xX", 8)), braidWith(strands, times("xX", 8))) || wantMatrixOfBoth(t, braidWith(strands, "x"), braidWith(strands%4+1, "x")) {
			t.Error("BraidTimes does not fail")
		}
	}
}

// Promise 84: If BraidGroup succeeds, it is even, with a relator less than generators, all its invariants are 0, and there is just one exactly if BraidKnot holds.

func TestPromise84Braids(t *testing.T) {
	told, failed := map[string]int{}, 0
	for _, b := range allBraids() {
		call := callOfBraids("BraidGroup", b)
		got, ok := impl.BraidGroup(b)
		want, isTold := braidGroupSlowly(b)
		wantGroupIf(t, call, got, ok, want, isTold)
		if !ok {
			failed++
			continue
		}
		knot := impl.BraidKnot(b)
		told[fmt.Sprint(b.Strands, knot)]++
		if !impl.GroupEven(got) || got.Gens != b.Strands || len(got.Rels) != got.Gens-1 {
			t.Errorf("%s is %s", call, briefGroup(got))
		}
		invariants := groupAbel(t, got)
		if slices.Max(invariants) != 0 || slices.Min(invariants) != 0 || (len(invariants) == 1) != knot {
			t.Errorf("%s: the invariants are %d, and BraidKnot is %v", call, invariants, knot)
		}
	}
	for _, kind := range []string{"2 true", "2 false", "3 true", "3 false", "4 true", "4 false"} {
		if told[kind] < 8 || failed < 30 {
			t.Errorf("so many groups are told for strands and knots: %v, and %d fail", told, failed)
		}
	}
}

func TestPromise84Examples(t *testing.T) {
	for _, x := range []struct {
		b    braid
		want group
	}{
		{braidWith(2, ""), groupWith(2, "")}, {braidWith(3, ""), groupWith(3, "", "")}, {braidWith(4, ""), groupWith(4, "", "", "")}, {braidWith(2, "xX"), groupWith(2, "")}, {braidWith(2, "x"), groupWith(2, "abAA")}, {braidWith(2, "X"), groupWith(2, "bA")}, {braidWith(2, "xx"), groupWith(2, "abaBAA")}, {braidWith(2, "XX"), groupWith(2, "BabA")},
		{braidWith(3, "x"), groupWith(3, "abAA", "aB")}, {braidWith(3, "y"), groupWith(3, "", "bcBB")}, {braidWith(3, "xy"), groupWith(3, "abcBAA", "aB")}, {braidWith(3, "yX"), groupWith(3, "bA", "BabcBA")}, {braidWith(4, "z"), groupWith(4, "", "", "cdCC")}, {braidWith(4, "Z"), groupWith(4, "", "", "dC")}, {braidWith(4, "xz"), groupWith(4, "abAA", "aB", "cdCC")}, {braidWith(4, "XYZ"), groupWith(4, "dA", "DadB", "DbdC")},
		// Of LettersMax letters.
		{braidWith(2, times("x", 29)), groupWith(2, times("ab", 15)+times("AB", 14)+"AA")},
	} {
		got, ok := impl.BraidGroup(x.b)
		wantGroup(t, callOfBraids("BraidGroup", x.b), got, ok, x.want)
	}
}

// What is made of a generator is it or another one between a word and its inverse, with an odd number of letters. So a relator never has more than LettersMax letters, but may have as many.
func TestPromise84Letters(t *testing.T) {
	longest := 0
	for _, b := range allBraids() {
		for _, generator := range generators {
			if w, ok := impl.BraidAct(b, generator); ok && len(w)%2 == 0 {
				t.Errorf("BraidAct of %s on %s is %q", briefBraid(b), generator, w)
			}
		}
		if g, ok := impl.BraidGroup(b); ok {
			for _, s := range g.Rels {
				longest = max(longest, len(s))
			}
		}
	}
	if longest != 60 {
		t.Errorf("the longest relator has %d letters", longest)
	}
}

// BraidAct fails on the last generator only, which has no relator, and on others.
func TestPromise84Failures(t *testing.T) {
	wantFailsOnly(t)
	last := map[int]int{}
	for b, g := range failsOnly {
		if g == b.Strands-1 {
			last[b.Strands]++
		}
		got, ok := impl.BraidGroup(b)
		wantNoGroup(t, callOfBraids("BraidGroup", b), got, ok)
	}
	if last[2] == 0 || last[3] == 0 || last[4] == 0 {
		t.Errorf("so many braids fail on the last generator only: %v", last)
	}
}

func TestPromise84Invalid(t *testing.T) {
	for _, b := range noBraids() {
		got, ok := impl.BraidGroup(b)
		wantNoGroup(t, callOfBraids("BraidGroup", b), got, ok)
	}
}

// Promise 85: If BraidPoly succeeds, it is alike its turned one, and its value at 1 is 1 or -1 if BraidKnot holds, and otherwise 0.

func TestPromise85Braids(t *testing.T) {
	told, failed := map[string]int{}, 0
	for _, b := range allBraids() {
		call := callOfBraids("BraidPoly", b)
		got, ok := impl.BraidPoly(b)
		want, isTold := braidPolySlowly(b)
		wantPolyIf(t, call, got, ok, want, isTold)
		if !ok {
			failed++
			continue
		}
		turned, fine := impl.PolyTurned(got)
		if !fine || !impl.PolyAlike(got, turned) {
			t.Errorf("%s is %s, and turned %s", call, briefPoly(got), briefPoly(turned))
		}
		value, knot := polyOne(t, got), impl.BraidKnot(b)
		if knot && value != 1 && value != -1 || !knot && value != 0 {
			t.Errorf("%s: the value at 1 is %d, and BraidKnot is %v", call, value, knot)
		}
		told[fmt.Sprint(b.Strands, knot, len(got.Coefs) > 1)]++
	}
	for strands := 2; strands <= 4; strands++ {
		for _, knot := range []bool{true, false} {
			if told[fmt.Sprint(strands, knot, true)] < 5 || failed < 30 {
				t.Errorf("so many polynomials are told: %v, and %d fail", told, failed)
			}
		}
	}
}

func TestPromise85Examples(t *testing.T) {
	for _, x := range []struct {
		b    braid
		want poly
	}{
		// Knots.
		{braidWith(2, "x"), number(1)}, {braidWith(2, "X"), number(1)}, {braidWith(3, "xy"), number(1)}, {braidWith(3, "xY"), number(1)}, {braidWith(4, "xyz"), number(1)}, {braidWith(4, "XyZ"), number(1)}, {braidWith(2, "xxx"), polyWith(0, 1, -1, 1)}, {braidWith(2, "XXX"), polyWith(0, 1, -1, 1)}, {braidWith(3, "xYxY"), polyWith(0, 1, -3, 1)}, {braidWith(2, "xxxxx"), polyWith(0, 1, -1, 1, -1, 1)}, {braidWith(3, "xxxyXy"), polyWith(0, 2, -3, 2)}, {braidWith(4, "xxyXZyZ"), polyWith(0, 2, -5, 2)}, {braidWith(3, "xyxyxyxy"), polyWith(0, 1, -1, 0, 1, 0, -1, 1)}, {braidWith(4, "xyzxyzxyz"), polyWith(0, 1, -1, 0, 1, 0, -1, 1)},
		// Others.
		{braidWith(2, ""), poly{}}, {braidWith(3, ""), poly{}}, {braidWith(4, ""), poly{}}, {braidWith(2, "xX"), poly{}}, {braidWith(3, "x"), poly{}}, {braidWith(4, "xz"), poly{}}, {braidWith(2, "xx"), polyWith(0, 1, -1)}, {braidWith(2, "xxxx"), polyWith(0, 1, -1, 1, -1)}, {braidWith(3, "xxyy"), polyWith(0, 1, -2, 1)}, {braidWith(3, "xYxYY"), polyWith(0, 1, -3, 3, -1)}, {braidWith(3, "xYxYxY"), polyWith(0, 1, -4, 6, -4, 1)}, {braidWith(4, "xxyyzz"), polyWith(0, 1, -3, 3, -1)}, {braidWith(4, times("xyz", 4)), polyWith(0, 1, -1, 0, 0, -2, 2, 0, 0, 1, -1)},
		// Of 28, 29 and 30 letters.
		{braidWith(2, times("x", 29)), polyWith(0, append(slices.Repeat([]int{1, -1}, 14), 1)...)}, {braidWith(2, times("X", 28)), polyWith(0, slices.Repeat([]int{1, -1}, 14)...)}, {braidWith(2, times("xX", 15)), poly{}}, {braidWith(2, "xxx"+times("xX", 13)), polyWith(0, 1, -1, 1)},
	} {
		got, ok := impl.BraidPoly(x.b)
		wantPoly(t, callOfBraids("BraidPoly", x.b), got, ok, x.want)
	}
}

func TestPromise85Failures(t *testing.T) {
	for b := range failsOnly {
		got, ok := impl.BraidPoly(b)
		wantNoPoly(t, callOfBraids("BraidPoly", b), got, ok)
	}
	for _, b := range []braid{braidWith(3, times("xY", 5)), braidWith(3, times("xY", 15)), braidWith(4, times("xYz", 10))} {
		got, ok := impl.BraidPoly(b)
		wantNoPoly(t, callOfBraids("BraidPoly", b), got, ok)
	}
}

func TestPromise85Invalid(t *testing.T) {
	for _, b := range noBraids() {
		got, ok := impl.BraidPoly(b)
		wantNoPoly(t, callOfBraids("BraidPoly", b), got, ok)
	}
}

// Promise 86: If BraidPoly succeeds, the determinant of 1 less BraidMatrix, without the last row and the first column, if told, is alike it.

func TestPromise86Braids(t *testing.T) {
	told := map[int]int{}
	for _, b := range allBraids() {
		call := callOfBraids("BraidPoly", b)
		got, ok := impl.BraidPoly(b)
		m, also := impl.BraidMatrix(b)
		if ok != also {
			t.Errorf("%s is %v, and BraidMatrix %v", call, ok, also)
		}
		if !ok {
			continue
		}
		less, ok := impl.MatrixLess(matrixOne(t, b.Strands), m)
		if !ok {
			continue
		}
		cut, ok := impl.MatrixCut(less, b.Strands-1, 0)
		if !ok {
			t.Errorf("%s: MatrixCut fails", call)
		}
		det, ok := impl.MatrixDet(cut)
		if !ok {
			continue
		}
		told[b.Strands]++
		if !impl.PolyAlike(det, got) {
			t.Errorf("%s is %s, and the determinant %s", call, briefPoly(got), briefPoly(det))
		}
	}
	if told[2] < 40 || told[3] < 100 || told[4] < 80 {
		t.Errorf("so many determinants were told: %v", told)
	}
}

// What fails for one of both fails for the other one.
func TestPromise86Invalid(t *testing.T) {
	for _, b := range []braid{braidWith(1, ""), braidWith(5, ""), braidWith(2, "y"), braidWith(2, times("x", 31)), braidWith(3, times("xY", 10))} {
		m, ok := impl.BraidMatrix(b)
		wantNoMatrix(t, callOfBraids("BraidMatrix", b), m, ok)
		a, ok := impl.BraidPoly(b)
		wantNoPoly(t, callOfBraids("BraidPoly", b), a, ok)
	}
}

// Promise 87: If BraidPoly succeeds, that of the turned braid, if told, is it.

func TestPromise87Braids(t *testing.T) {
	told := 0
	for _, b := range allBraids() {
		if wantSameBraidPoly(t, "turned", b, braidTurned(t, b)) {
			told++
		}
	}
	if told < 200 {
		t.Errorf("only %d polynomials were told for both", told)
	}
}

// One of both fails, and the other one does not.
func TestPromise87Failures(t *testing.T) {
	for _, b := range []braid{braidWith(2, times("x", 30)), braidWith(3, times("Y", 30)), braidWith(3, times("xY", 6))} {
		for _, x := range []braid{b, turnBraidSlowly(b)} {
			got, ok := impl.BraidPoly(x)
			want, told := braidPolySlowly(x)
			wantPolyIf(t, callOfBraids("BraidPoly", x), got, ok, want, told)
		}
	}
}

// Promise 88: If BraidPoly succeeds, that of the braid with its first letter put behind, if told, is it.

func TestPromise88Braids(t *testing.T) {
	told := 0
	for _, b := range allBraids() {
		for _, s := range turnsOf(b.Word) {
			if wantSameBraidPoly(t, "first letters behind", b, braidWith(b.Strands, s)) {
				told++
			}
		}
	}
	if told < 1500 {
		t.Errorf("only %d polynomials were told for both", told)
	}
}

// A letter around the braid and its inverse are gone when it is closed.
func TestPromise88Around(t *testing.T) {
	told := 0
	for _, b := range knottedBraids() {
		for _, sign := range strings.Split(lettersOf(b.Strands), "") {
			around := turnBraidSlowly(braidWith(b.Strands, sign)).Word + b.Word + sign
			if wantSameBraidPoly(t, "with a letter around", b, braidWith(b.Strands, around)) {
				told++
			}
		}
	}
	if told < 100 {
		t.Errorf("only %d polynomials were told for both", told)
	}
}

// Promise 89: If BraidGrow succeeds, BraidPoly of both, if told, is the same, and BraidKnot too.

// wantGrownBraid wants BraidGrow of a braid, or a failure. It returns whether the polynomials are told for both.
func wantGrownBraid(t *testing.T, b braid, back bool) bool {
	t.Helper()
	call := callOfBraids(fmt.Sprintf("BraidGrow (%v)", back), b)
	got, ok := impl.BraidGrow(b, back)
	want, told := growSlowly(b, back)
	wantBraidIf(t, call, got, ok, want, told)
	if !ok {
		return false
	}
	if impl.BraidKnot(got) != impl.BraidKnot(b) {
		t.Errorf("%s: BraidKnot is not the same", call)
	}
	return wantSameBraidPoly(t, call, b, got)
}

func TestPromise89Braids(t *testing.T) {
	told := map[string]int{}
	for _, b := range allBraids() {
		for _, back := range []bool{true, false} {
			if wantGrownBraid(t, b, back) {
				told[fmt.Sprint(b.Strands, back)]++
			}
		}
	}
	if told["2 true"] < 30 || told["2 false"] < 30 || told["3 true"] < 50 || told["3 false"] < 50 || len(told) != 4 {
		t.Errorf("so many polynomials were told for strands and letters: %v", told)
	}
}

func TestPromise89Examples(t *testing.T) {
	for _, x := range []struct {
		b         braid
		word, inv string
	}{
		{braidWith(2, ""), "y", "Y"}, {braidWith(2, "x"), "xy", "xY"}, {braidWith(2, "XX"), "XXy", "XXY"}, {braidWith(3, ""), "z", "Z"}, {braidWith(3, "xYxY"), "xYxYz", "xYxYZ"}, {braidWith(3, "yY"), "yYz", "yYZ"}, {braidWith(2, times("x", 29)), times("x", 29) + "y", times("x", 29) + "Y"}, {braidWith(3, times("Y", 29)), times("Y", 29) + "z", times("Y", 29) + "Z"},
	} {
		got, ok := impl.BraidGrow(x.b, false)
		wantBraid(t, callOfBraids("BraidGrow", x.b), got, ok, braidWith(x.b.Strands+1, x.word))
		got, ok = impl.BraidGrow(x.b, true)
		wantBraid(t, callOfBraids("BraidGrow back", x.b), got, ok, braidWith(x.b.Strands+1, x.inv))
	}
	// 4 strands, and 30 letters.
	for _, b := range []braid{braidWith(4, ""), braidWith(4, "xyz"), braidWith(4, times("z", 29)), braidWith(4, times("x", 30)), braidWith(2, times("x", 30)), braidWith(2, times("xX", 15)), braidWith(3, times("xY", 15)), braidWith(3, times("Y", 30))} {
		for _, back := range []bool{true, false} {
			got, ok := impl.BraidGrow(b, back)
			wantNoBraid(t, callOfBraids("BraidGrow", b), got, ok)
		}
	}
}

// 2 strands become 3, and these 4, with all letters and their inverses.
func TestPromise89Twice(t *testing.T) {
	for _, b := range append(braidsWith(2, textsOf("xX", 5)...), braidWith(2, times("xX", 14))) {
		for _, backs := range [][2]bool{{true, true}, {true, false}, {false, true}, {false, false}} {
			once, ok := impl.BraidGrow(b, backs[0])
			twice, also := impl.BraidGrow(once, backs[1])
			if !ok || !also || !wantSameBraidPoly(t, "BraidGrow twice", b, twice) || impl.BraidKnot(b) != impl.BraidKnot(twice) {
				t.Errorf("%s twice is %s, %v", callOfBraids("BraidGrow", b), briefBraid(twice), also)
			}
		}
	}
}

func TestPromise89Invalid(t *testing.T) {
	for _, b := range noBraids() {
		for _, back := range []bool{true, false} {
			got, ok := impl.BraidGrow(b, back)
			wantNoBraid(t, callOfBraids("BraidGrow", b), got, ok)
		}
	}
}

// Promise 90: If BraidKnot holds, no place stays under the permutation.

func TestPromise90Braids(t *testing.T) {
	held, failed, others := map[int]int{}, map[int]int{}, 0
	for _, b := range append(slices.Clone(allBraids()), braidsWith(4, textsOf("xyz", 5)...)...) {
		got := impl.BraidKnot(b)
		if got != isKnotSlowly(b) {
			t.Errorf("%s is %v", callOfBraids("BraidKnot", b), got)
		}
		stays := false
		for place, end := range braidPerm(t, b) {
			stays = stays || place == end
		}
		switch {
		case got && stays:
			t.Errorf("%s holds, though a place stays", callOfBraids("BraidKnot", b))
		case got:
			held[b.Strands]++
		case !stays:
			others++
		default:
			failed[b.Strands]++
		}
	}
	if held[2] < 20 || held[3] < 20 || held[4] < 20 || failed[2] < 20 || failed[3] < 20 || failed[4] < 20 || others < 10 {
		t.Errorf("BraidKnot holds %v, fails %v, and fails %d times though no place stays", held, failed, others)
	}
}

func TestPromise90Examples(t *testing.T) {
	for _, b := range []braid{braidWith(2, "x"), braidWith(2, "X"), braidWith(2, "xxx"), braidWith(2, times("x", 29)), braidWith(3, "xy"), braidWith(3, "Yx"), braidWith(3, "xYxY"), braidWith(3, times("xy", 14)), braidWith(4, "xyz"), braidWith(4, "zxY"), braidWith(4, times("xyZ", 9)), braidWith(4, "xyyyz")} {
		if !impl.BraidKnot(b) {
			t.Errorf("%s does not hold", callOfBraids("BraidKnot", b))
		}
	}
	for _, b := range []braid{
		braidWith(2, ""), braidWith(2, "xx"), braidWith(2, "xX"), braidWith(2, times("x", 30)), braidWith(3, ""), braidWith(3, "x"), braidWith(3, "y"), braidWith(3, "xyx"), braidWith(3, times("xy", 15)), braidWith(4, ""), braidWith(4, "xy"), braidWith(4, "yz"), braidWith(4, "z"), braidWith(4, "xyzxyzxyzxyz"),
		// No place stays, but two pairs are exchanged.
		braidWith(4, "xz"), braidWith(4, "xyzxyz"), braidWith(4, "yxzy"), braidWith(4, times("xYz", 10)),
	} {
		if impl.BraidKnot(b) {
			t.Errorf("%s holds", callOfBraids("BraidKnot", b))
		}
	}
}

func TestPromise90Invalid(t *testing.T) {
	for _, b := range noBraids() {
		if impl.BraidKnot(b) {
			t.Errorf("%s holds", callOfBraids("BraidKnot", b))
		}
	}
}

// The general rules: results have memory of their own, and nothing is kept.

func TestBraidsMemory(t *testing.T) {
	for _, b := range allBraids() {
		first, second := braidPerm(t, b), braidPerm(t, b)
		spoilAll(first, 99)
		wantNumbers(t, callOfBraids("BraidPerm", b), second, true, permSlowly(b))
		m, _ := impl.BraidMatrix(b)
		other, ok := impl.BraidMatrix(b)
		wantOwnPlaces(t, callOfBraids("BraidMatrix", b), m)
		want, told := braidMatrixSlowly(b)
		wantMatrixIf(t, callOfBraids("BraidMatrix", b), other, ok, want, told)
		g, _ := impl.BraidGroup(b)
		next, ok := impl.BraidGroup(b)
		spoilAll(g.Rels, "spoilt")
		closed, told := braidGroupSlowly(b)
		wantGroupIf(t, callOfBraids("BraidGroup", b), next, ok, closed, told)
		a, ok := impl.BraidPoly(b)
		left, _ := impl.BraidPoly(b)
		spoil(left)
		if ok {
			wantPoly(t, callOfBraids("BraidPoly", b), a, ok, groupPolySlowly(closed, 0))
		}
	}
}

func TestBraidsKeepNoState(t *testing.T) {
	b, bad := braidWith(3, "xYxY"), braidWith(3, "xz")
	for range 3 {
		w, ok := impl.BraidAct(b, "b")
		wantText(t, "BraidAct", w, ok, "acA")
		w, ok = impl.BraidAct(bad, "b")
		wantFailure(t, "BraidAct", w, ok)
		ends, ok := impl.BraidPerm(b)
		wantNumbers(t, "BraidPerm", ends, ok, []int{1, 2, 0})
		ends, ok = impl.BraidPerm(bad)
		wantNoNumbers(t, "BraidPerm", ends, ok)
		a, ok := impl.BraidPoly(b)
		wantPoly(t, "BraidPoly", a, ok, polyWith(0, 1, -3, 1))
		a, ok = impl.BraidPoly(bad)
		wantNoPoly(t, "BraidPoly", a, ok)
		grown, ok := impl.BraidGrow(b, true)
		wantBraid(t, "BraidGrow", grown, ok, braidWith(4, "xYxYZ"))
		turned, ok := impl.BraidTurned(b)
		wantBraid(t, "BraidTurned", turned, ok, braidWith(3, "yXyX"))
		if !impl.BraidIn(b) || impl.BraidIn(bad) || !impl.BraidKnot(b) || impl.BraidKnot(bad) {
			t.Error("BraidIn or BraidKnot is not the same each time")
		}
	}
}

// Calls at the same time return what calls one behind the other return.
func TestBraidsAtTheSameTime(t *testing.T) {
	var callers sync.WaitGroup
	for range 8 {
		callers.Go(func() {
			for _, b := range knottedBraids() {
				got, ok := impl.BraidPoly(b)
				want, told := braidPolySlowly(b)
				wantPolyIf(t, callOfBraids("BraidPoly", b), got, ok, want, told)
			}
		})
	}
	callers.Wait()
}
