package bank

import (
	"slices"
	"strings"
)

const (
	maxLine   = 100
	maxDigits = 4
	maxName   = 8
)

// form is what follows the first word of a line: a letter a for each name, a digit 0 for each number, and how many of these words there are at least.
type form struct {
	kinds string
	least int
}

// words are the names and the numbers of a line after its first word, each in order.
type words struct {
	names   []string
	numbers []int
}

// noForm returns a form that no words have.
func noForm() form {
	return form{"", 1}
}

// parse returns what a line is, by its first word, and the words after that, and whether it is a line of the form that goes with it.
func parse[T any](line string, find func(word string) (form, T)) (T, words, bool) {
	var none T
	list, ok := wordsOf(line)
	if !ok {
		return none, words{}, false
	}
	f, found := find(list[0])
	w, ok := f.read(list[1:])
	return found, w, ok
}

// wordsOf returns the words of a line, and whether it is one.
func wordsOf(line string) ([]string, bool) {
	if len(line) > maxLine {
		return nil, false
	}
	for _, char := range line {
		if char < ' ' || char > '~' {
			return nil, false
		}
	}
	list := strings.Split(line, " ")
	// Where a blank is not between two words, or the line is empty, there is an empty word.
	return list, !slices.Contains(list, "")
}

// read returns the words after the first one, and whether they have this form.
func (f form) read(list []string) (words, bool) {
	if !within(len(list), f.least, len(f.kinds)) {
		return words{}, false
	}
	var w words
	for at, kind := range f.kinds[:len(list)] {
		if !w.add(kind, list[at]) {
			return words{}, false
		}
	}
	return w, true
}

// add adds a word, unless it is not of a kind.
func (w *words) add(kind rune, word string) bool {
	if kind == 'a' {
		w.names = append(w.names, word)
		return isName(word)
	}
	n, ok := number(word)
	w.numbers = append(w.numbers, n)
	return ok
}

// isName reports whether a word is a name.
func isName(word string) bool {
	for _, char := range word {
		if char < 'a' || char > 'z' {
			return false
		}
	}
	return within(len(word), 1, maxName)
}

// number returns what number a word is, and whether it is one.
func number(word string) (int, bool) {
	if !within(len(word), 1, maxDigits) || word[0] == '0' && word != "0" {
		return 0, false
	}
	n := 0
	for _, char := range word {
		if char < '0' || char > '9' {
			return 0, false
		}
		n = n*10 + int(char-'0')
	}
	return n, true
}
