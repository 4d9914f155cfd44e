package drive

import (
	"strconv"
	"strings"
)

// parse tells a line's first word, and the numbers that follow it; nothing is known of a line in which anything else follows.
func parse(line string) (word string, numbers []uint32, known bool) {
	word, rest, more := strings.Cut(line, " ")
	for more {
		var text string
		text, rest, more = strings.Cut(rest, " ")
		n, is := number(text)
		if !is {
			return "", nil, false
		}
		numbers = append(numbers, n)
	}
	return word, numbers, mayFollow(word, len(numbers))
}

// number takes only what would be written for it: else a 0 ahead of other digits would do.
func number(text string) (n uint32, is bool) {
	v, err := strconv.ParseUint(text, 10, 32)
	return uint32(v), err == nil && strconv.FormatUint(v, 10) == text
}

// mayFollow tells whether so many numbers may follow the word.
func mayFollow(word string, count int) bool {
	switch word {
	case "narrow", "wide", "near":
		return count == 0
	case "run", "bytes":
		return count == 1
	case "on":
		return count == 2
	case "code":
		return count == 6
	}
	return word == "ins"
}

// tell writes numbers behind the words that there are.
func tell[N ~int | ~uint32](words []string, numbers ...N) []string {
	for _, n := range numbers {
		words = append(words, strconv.FormatInt(int64(n), 10))
	}
	return words
}
