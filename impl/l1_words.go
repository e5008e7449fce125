package impl

import (
	"iter"
	"slices"
)

// LettersMax is the greatest number of letters of a word.
const LettersMax = 60

const (
	generatorCount = 4
	reduceMax      = 200
	powerMax       = 60

	// inverseBit is the bit in which a letter and its inverse differ; generators have it.
	inverseBit = 'a' ^ 'A'
)

// letter is a generator, 'a' to 'd', or its inverse, 'A' to 'D'.
type letter byte

func (x letter) known() bool {
	g := x | inverseBit
	return g >= 'a' && g < 'a'+generatorCount
}

func (x letter) inverse() letter {
	return x ^ inverseBit
}

func (x letter) index() int {
	return int(x|inverseBit) - 'a'
}

// sign is 1 for a generator and -1 for its inverse.
func (x letter) sign() int {
	if x&inverseBit == 0 {
		return -1
	}
	return 1
}

// word is a list of letters that is reduced. While it is made it may have more than LettersMax letters.
type word []letter

// letters yields the letters of the word, or those of its inverse for a negative sign.
func (w word) letters(sign int) iter.Seq[letter] {
	if sign < 0 {
		return w.turned()
	}
	return slices.Values(w)
}

// turned yields the letters of the inverse of the word.
func (w word) turned() iter.Seq[letter] {
	return func(yield func(letter) bool) {
		for _, x := range slices.Backward(w) {
			if !yield(x.inverse()) {
				return
			}
		}
	}
}

// inverse returns the inverse of the word.
func (w word) inverse() word {
	return reduced(w.turned())
}

// put returns the word with a word for each generator in the place of its letters, reduced at last.
func (w word) put(images []word) word {
	var parts []iter.Seq[letter]
	for x := range w.letters(1) {
		parts = append(parts, images[x.index()].letters(x.sign()))
	}
	return reduced(parts...)
}

// with returns the word with a letter behind, reduced. It may write to the memory of the word.
func (w word) with(x letter) word {
	last := len(w) - 1
	if last >= 0 && w[last] == x.inverse() {
		return w[:last]
	}
	return append(w, x)
}

// sums returns, for each generator, how often it stands in the word less how often its inverse does.
func (w word) sums() []int {
	sums := make([]int, generatorCount)
	for x := range w.letters(1) {
		sums[x.index()] += x.sign()
	}
	return sums
}

// text returns the letters of the word as a text.
func (w word) text() string {
	text := make([]byte, len(w))
	for i, x := range w {
		text[i] = byte(x)
	}
	return string(text)
}

// told returns the word as a text, and true, unless it has too many letters.
func (w word) told() (string, bool) {
	if len(w) > LettersMax {
		return "", false
	}
	return w.text(), true
}

// signsOf yields the bytes of a text as letters, known ones or not.
func signsOf(s string) iter.Seq[letter] {
	return func(yield func(letter) bool) {
		for i := range len(s) {
			if !yield(letter(s[i])) {
				return
			}
		}
	}
}

// generatorsOnly reports whether a text has no signs but generators.
func generatorsOnly(s string) bool {
	for x := range signsOf(s) {
		if !x.known() || x.sign() < 0 {
			return false
		}
	}
	return true
}

// generatorText returns the generator with an index as a text.
func generatorText(g int) string {
	return word{letter('a' + g)}.text()
}

// reduced returns the letters of all parts, one part behind the other, reduced.
func reduced(parts ...iter.Seq[letter]) word {
	w := word{}
	for _, part := range parts {
		for x := range part {
			w = w.with(x)
		}
	}
	return w
}

// reduceText returns a text reduced, and whether it has letters only.
func reduceText(s string) (word, bool) {
	for x := range signsOf(s) {
		if !x.known() {
			return nil, false
		}
	}
	return reduced(signsOf(s)), true
}

// wordOf returns the letters of a text, and whether it is a word.
func wordOf(s string) (word, bool) {
	if len(s) > LettersMax {
		return nil, false
	}
	w, ok := reduceText(s)
	if !ok || len(w) < len(s) {
		return nil, false
	}
	return w, true
}

// wordsOf returns the letters of all texts, and whether all are words.
func wordsOf(list ...string) ([]word, bool) {
	words := make([]word, len(list))
	for i, s := range list {
		w, ok := wordOf(s)
		if !ok {
			return nil, false
		}
		words[i] = w
	}
	return words, true
}

// imagesOf returns the letters of four words, one for each generator, and true.
func imagesOf(list []string) ([]word, bool) {
	if len(list) != generatorCount {
		return nil, false
	}
	return wordsOf(list...)
}

// WordIn reports whether a text is a word.
func WordIn(s string) bool {
	_, ok := wordOf(s)
	return ok
}

// WordReduce returns a text of at most 200 letters reduced, and true.
func WordReduce(s string) (string, bool) {
	if len(s) > reduceMax {
		return "", false
	}
	w, ok := reduceText(s)
	if !ok {
		return "", false
	}
	return w.told()
}

// WordTimes returns the product of two words, and true.
func WordTimes(a string, b string) (string, bool) {
	w, ok := wordsOf(a, b)
	if !ok {
		return "", false
	}
	return reduced(w[0].letters(1), w[1].letters(1)).told()
}

// WordTurned returns the inverse of a word, and true.
func WordTurned(s string) (string, bool) {
	w, ok := wordOf(s)
	if !ok {
		return "", false
	}
	return w.inverse().told()
}

// WordPower returns a word as often behind itself as told, its inverse for negative numbers, reduced, and true.
func WordPower(s string, n int) (string, bool) {
	w, ok := wordOf(s)
	if !ok || n < -powerMax || n > powerMax {
		return "", false
	}
	once := []iter.Seq[letter]{w.letters(n)}
	return reduced(slices.Repeat(once, max(n, -n))...).told()
}

// WordComm returns the commutator of two words, and true.
func WordComm(a string, b string) (string, bool) {
	w, ok := wordsOf(a, b)
	if !ok {
		return "", false
	}
	return reduced(w[0].letters(1), w[1].letters(1), w[0].turned(), w[1].turned()).told()
}

// WordSums returns, for each generator, how often it stands in a word less how often its inverse does, and true.
func WordSums(s string) ([]int, bool) {
	w, ok := wordOf(s)
	if !ok {
		return nil, false
	}
	return w.sums(), true
}

// WordPut returns the word with four words, one for each generator, put in the place of its letters, their inverses for inverse letters, reduced at last, and true.
func WordPut(s string, list []string) (string, bool) {
	images, ok := imagesOf(list)
	if !ok {
		return "", false
	}
	w, ok := wordOf(s)
	if !ok {
		return "", false
	}
	return w.put(images).told()
}

// WordCore returns the word that is left when the first and the last letter are taken out as long as they are inverse to each other, and true.
func WordCore(s string) (string, bool) {
	w, ok := wordOf(s)
	if !ok {
		return "", false
	}
	for len(w) > 1 && w[0] == w[len(w)-1].inverse() {
		w = w[1 : len(w)-1]
	}
	return w.told()
}
