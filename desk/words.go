package desk

import (
	"strconv"
	"strings"
	"unicode/utf8"

	"rosetta/api"
)

// wordsOf is the words of a line, between which there are blanks. (Nothing but a blank is one.)
func wordsOf(line string) []string {
	return strings.FieldsFunc(line, func(letter rune) bool { return letter == ' ' })
}

// numberOf is what a word says, as it would be told: by no other word. It throws ErrForm.
func numberOf(word string) int {
	n, err := strconv.ParseInt(word, 10, 64)
	if err != nil || strconv.FormatInt(n, 10) != word {
		panic(api.ErrForm)
	}
	return int(n)
}

// numbersOf is what words say. It throws ErrForm.
func numbersOf(words []string) []int {
	var l []int
	for _, w := range words {
		l = append(l, numberOf(w))
	}
	return l
}

// partOf is what a word says of an operation. It throws ErrForm.
func partOf(word string) api.Part {
	letter, size := utf8.DecodeRuneInString(word)
	rest := word[size:]
	switch letter {
	case 'k':
		return api.Part{Keep: numberOf(rest)}
	case 'd':
		return api.Part{Drop: numberOf(rest)}
	case 'p':
		if rest != "" { // not even the empty text is written as nothing
			return api.Part{Put: textOf(rest)}
		}
	}
	panic(api.ErrForm)
}

// textOf is what a word says.
func textOf(word string) string {
	if word == "-" {
		return ""
	}
	return turned(word, func(letter rune) rune {
		switch letter {
		case '_':
			return ' '
		case '/':
			return '\n'
		}
		return letter
	})
}

// tellText is a text as a word.
func tellText(s string) string {
	if s == "" {
		return "-"
	}
	return turned(s, func(letter rune) rune {
		switch letter {
		case ' ':
			return '_'
		case '\n':
			return '/'
		}
		return letter
	})
}

// turned is a text with other letters. Bytes that are no letter stay as they are (strings.Map would make letters of them): what is wrong is for those to tell who are asked about the text.
func turned(s string, other func(letter rune) rune) string {
	var b strings.Builder
	for s != "" {
		letter, size := utf8.DecodeRuneInString(s)
		if o := other(letter); o != letter {
			b.WriteRune(o)
		} else {
			b.WriteString(s[:size])
		}
		s = s[size:]
	}
	return b.String()
}

// tellNumbers is numbers as words, with a blank between.
func tellNumbers(l ...int) string {
	var words []string
	for _, n := range l {
		words = append(words, strconv.Itoa(n))
	}
	return strings.Join(words, " ")
}

func tellError(e api.Errno) string { return "error " + strconv.Itoa(int(e)) }
