package desk

import (
	"strconv"
	"strings"

	"hedgewright/api"
)

const (
	maxText   = 8192
	maxLines  = 100
	maxDigits = 7
)

// none is told where there is nothing to tell.
const none = "none"

// linesOf tells the words of each line that has some: P12.1.
func linesOf(text string) [][]string {
	var lines [][]string
	for _, line := range strings.Split(text, "\n") {
		line, _, _ = strings.Cut(line, ";")
		if words := strings.FieldsFunc(line, isBlank); len(words) > 0 {
			lines = append(lines, words)
		}
	}
	return lines
}

func isBlank(r rune) bool {
	return r == ' ' || r == '\t'
}

// count throws a slip, if there are too few or too many words.
func count(words []string, many int) {
	if len(words) != many {
		panic(slip(api.ErrArg))
	}
}

// numbersOf tells so many numbers, or throws a slip.
func numbersOf(words []string, many int) []int {
	count(words, many)
	numbers := make([]int, many)
	for i, word := range words {
		numbers[i] = numberOf(word)
	}
	return numbers
}

// numberOf throws a slip, if word is not digits, few enough; no word is empty.
func numberOf(word string) int {
	if len(word) > maxDigits {
		panic(slip(api.ErrArg))
	}
	number := 0
	for i := range len(word) {
		if word[i] < '0' || word[i] > '9' {
			panic(slip(api.ErrArg))
		}
		number = number*10 + int(word[i]-'0')
	}
	return number
}

func errorText(err api.Errno) string {
	return "error " + strconv.Itoa(int(err))
}

// joined has blanks between the numbers.
func joined(numbers []int) string {
	texts := make([]string, len(numbers))
	for i, number := range numbers {
		texts[i] = strconv.Itoa(number)
	}
	return strings.Join(texts, " ")
}

func orNone(text string) string {
	if text == "" {
		return none
	}
	return text
}
