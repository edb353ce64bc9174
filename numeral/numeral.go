// Package numeral: numbers as they stand in texts: in a circuit's (P15), and in
// the lines of a desk (P22).
package numeral

// The most digits of a number: P has so many, and what has no more than these
// always fits in 63 bits, so that it may be taken as an int, too.
const maxDigits = 10

// ReadAll reads words that are all numbers; false, if one of them is none.
func ReadAll(words []string) ([]uint64, bool) {
	numbers := make([]uint64, len(words))
	for i, word := range words {
		number, right := read(word)
		if !right {
			return nil, false
		}
		numbers[i] = number
	}
	return numbers, true
}

// read takes a number only as it is told, so without signs or noughts ahead.
func read(word string) (uint64, bool) {
	if len(word) < 1 || len(word) > maxDigits || len(word) > 1 && word[0] == '0' {
		return 0, false
	}
	number := uint64(0)
	for i := range len(word) {
		if word[i] < '0' || word[i] > '9' {
			return 0, false
		}
		number = number*10 + uint64(word[i]-'0')
	}
	return number, true
}
