package number_test

import (
	"math"
	"regexp"
	"strconv"
	"strings"
	"testing"

	"withy/number"
)

var pattern = regexp.MustCompile(`\A(0|[1-9][0-9]{0,8}|-[1-9][0-9]{0,7})\z`)

func compare(t *testing.T, s string) {
	t.Helper()
	want, wantIs := 0, pattern.MatchString(s)
	if wantIs {
		want, _ = strconv.Atoi(s)
	}
	if n, is := number.Read(s); n != want || is != wantIs {
		t.Errorf("Read(%q) = %v, %v, want %v, %v", s, n, is, want, wantIs)
	}
}

// P20, P47, P57: numbers as they are written.
func TestRead(t *testing.T) {
	for s, want := range map[string]int{
		"0": 0, "1": 1, "-1": -1, "9": 9, "10": 10, "255": 255, "-10": -10,
		"123456789": 123456789, "999999999": 999999999, "-12345678": -12345678, "-99999999": -99999999,
	} {
		if n, is := number.Read(s); n != want || !is {
			t.Errorf("Read(%q) = %v, %v, want %v", s, n, is, want)
		}
	}
}

// P20, P47, P57: what is no number, by its form or by its bytes.
func TestReadRefuses(t *testing.T) {
	for _, s := range []string{
		"", "-", "+", "+0", "+1", "-0", "00", "01", "-00", "-01", "--1", "- 1", " 1", "1 ", "1\n", "\n", "1-", "1-1", "1\x00",
		"x", "1x", "0x1", "0b1", "0o1", "1_0", "1.0", "1e1", "1,2", "٣", "１", "\xff", "inf",
		"1000000000", "-100000000", "0000000000", "9223372036854775808", "18446744073709551617", strings.Repeat("1", 1<<20),
		strconv.Itoa(math.MaxInt), strconv.Itoa(math.MinInt),
	} {
		if n, is := number.Read(s); n != 0 || is {
			t.Errorf("Read(%q) = %v, %v", s, n, is)
		}
	}
}

// P20, P47, P57: each short text, and each number around the bounds.
func TestReadEachText(t *testing.T) {
	texts := []string{""}
	for range 6 {
		var longer []string
		for _, s := range texts {
			compare(t, s)
			for _, c := range "0129-+ " {
				longer = append(longer, s+string(c))
			}
		}
		texts = longer
	}
	for length := range 30 {
		for _, digit := range []string{"0", "1", "9"} {
			for _, ahead := range []string{"", "-", "1", "-1"} {
				compare(t, ahead+strings.Repeat(digit, length))
			}
		}
	}
}
