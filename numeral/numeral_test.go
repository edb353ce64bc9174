package numeral_test

import (
	"regexp"
	"slices"
	"strconv"
	"testing"

	"sharecroft/numeral"
)

func TestP15P22Numbers(t *testing.T) {
	for word, right := range map[string]uint64{
		"0": 0, "1": 1, "9": 9, "10": 10, "907": 907,
		"2147483647": 1<<31 - 1, "4294967296": 1 << 32,
		"1000000000": 1000000000, "9999999999": 9999999999,
	} {
		if got, ok := numeral.ReadAll([]string{word}); !ok || !slices.Equal(got, []uint64{right}) {
			t.Errorf("%q: %d, %v", word, got, ok)
		}
	}
}

func TestP15P22NoNumbers(t *testing.T) {
	for _, word := range []string{
		"", "00", "01", "0000000000", "0123456789", "10000000000", "00000000001", "18446744073709551617",
		"-1", "+1", "-0", "1.0", "1e3", "0x1", "1_0", "1a", "a1", "/", ":", "1/", "1:", " 1", "1 ", "1\n", "\t1", "1\r",
		"\x00", "1\x00", "\xff", "١", "１", "²",
	} {
		for _, words := range [][]string{{word}, {"1", word}, {word, "1"}, {"1", word, "2"}} {
			if got, ok := numeral.ReadAll(words); ok || got != nil {
				t.Errorf("%q: %d, %v", words, got, ok)
			}
		}
	}
}

func TestP15P22Many(t *testing.T) {
	for n := range 300 {
		var words []string
		var right []uint64
		for i := range uint64(n) {
			right = append(right, i*i*i*300)
			words = append(words, strconv.FormatUint(i*i*i*300, 10))
		}
		first := slices.Clone(words)
		if got, ok := numeral.ReadAll(words); !ok || !slices.Equal(got, right) {
			t.Errorf("%d numbers: %d, %v", n, got, ok)
		}
		if !slices.Equal(words, first) {
			t.Errorf("%d numbers: changed to %q", n, words)
		}
	}
}

// All words of at most three bytes, of those that may matter, are held against
// what a number is.
func TestP15P22ShortWords(t *testing.T) {
	number := regexp.MustCompile(`^(0|[1-9][0-9]{0,9})$`)
	words := []string{""}
	for i := 0; i < len(words); i++ {
		if len(words[i]) < 3 {
			for _, b := range "0159/:-+_ea" {
				words = append(words, words[i]+string(b))
			}
		}
		got, ok := numeral.ReadAll(words[i : i+1])
		if ok != number.MatchString(words[i]) || ok && strconv.FormatUint(got[0], 10) != words[i] {
			t.Errorf("%q: %d, %v", words[i], got, ok)
		}
	}
}
