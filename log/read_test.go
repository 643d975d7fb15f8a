package log_test

import (
	"fmt"
	"math/rand/v2"
	"regexp"
	"strconv"
	"strings"
	"testing"

	"withy/api"
	"withy/log"
	"withy/record"
)

func checkRead(t *testing.T, s string, want api.Op, wantBytes int) {
	t.Helper()
	if o, n, e := log.Read(s); text(o) != text(want) || n != wantBytes || e != api.OK {
		t.Fatalf("Read(%q) = %v, %v, %v, want %v, %v", s, text(o), n, e, text(want), wantBytes)
	}
}

// refuseRead looks, too, whether anything but the error is answered.
func refuseRead(t *testing.T, s string, want api.Errno) {
	t.Helper()
	if o, n, e := log.Read(s); text(o) != text(api.Op{}) || n != 0 || e != want {
		t.Errorf("Read(%.300q) = %v, %v, %v, want %v", s, text(o), n, e, want)
	}
}

// P47: the first line, whatever stands behind it, and how many bytes it has.
func TestRead(t *testing.T) {
	for _, x := range goodLines() {
		s := line(x.said)
		for _, more := range []string{"", "\n", "more", "more\n", "cut", " =", " =0\n", s, "\x00\xff"} {
			checkRead(t, s+more, x.o, len(s))
		}
	}
}

// P47: a line that has no byte 10 is cut off, wherever that is.
func TestReadShort(t *testing.T) {
	for _, x := range goodLines() {
		s := line(x.said)
		for i := range len(s) {
			refuseRead(t, s[:i], api.ErrShort)
		}
	}
	for _, s := range []string{"", " ", " =", "=", "more", " =0", "rules =1652", "rules =1651\r", "rules =1651\x00", strings.Repeat("rules ", 100000)} {
		refuseRead(t, s, api.ErrShort)
	}
}

// P47: lines without a sum.
func TestReadNoSum(t *testing.T) {
	for _, s := range []string{
		"\n", "\nrules =1651\n", "rules\n", "rules=1651\n", "rules= 1651\n", "rules 1651\n", "rules\t=1651\n", "rules \n", "=\n", "=0\n", " \n", "=1651\n",
		"rules =\n", "rules = \n", "rules = 1651\n", "rules = =1651 \n", "rules =1651 \n", "rules =1651\r\n", "rules =1651\x00\n", "rules =x\n", "rules ==1651\n",
		"rules =01651\n", "rules =+1651\n", "rules =-1651\n", "rules =00\n", "rules =-0\n", "rules =-1\n", "rules =0x673\n", "rules =1651.0\n", "rules =1_651\n",
		"rules =65521\n", "rules =65522\n", "rules =67172\n", "rules =99999\n", "rules =100000\n", "rules =999999999\n", "rules =1000000000\n",
		"rules =18446744073709553267\n", "rules =1651 =\n", "rules =1651 =x\n", "rules\n =1651\n", " =65521\n",
	} {
		refuseRead(t, s, api.ErrWord)
	}
}

// P47: sums that are others, of good lines and of bad ones.
func TestReadOtherSum(t *testing.T) {
	for _, s := range []string{"rules =1652\n", "rules =1650\n", "rules =0\n", "rules =65520\n", "rules =1\n", "rules =651\n", "rules =16511\n", " =1\n", "x =119\n", "rules  =1651\n", " rules =1651\n", "rulse =1651\n", "rules =1651 =1651\n"} {
		refuseRead(t, s, api.ErrSum)
	}
	for _, x := range goodLines() {
		sum := wantSum(x.said)
		for _, other := range []int{0, 1, sum - 1, sum + 1, sum / 10, 65520, 65520 - sum} {
			if other != sum && other >= 0 && other < 65521 {
				refuseRead(t, fmt.Sprintf("%s =%d\n", x.said, other), api.ErrSum)
			}
		}
	}
}

// P47: the last blank with an = behind it is the one ahead of the sum.
func TestReadLastSum(t *testing.T) {
	refuseRead(t, line("rules =1651"), api.ErrWord)
	refuseRead(t, line("cut 0 0 0 a 1 =x"), api.ErrWord)
	refuseRead(t, line("put 0 0 0 a;0;; ="), api.ErrWord)
	refuseRead(t, line("cut 0 0 0 = 1"), api.ErrForm)
	refuseRead(t, line("cut 0 0 0 =a 1"), api.ErrForm)
	refuseRead(t, line("cut 0 0 0 =57 1"), api.ErrForm)
}

// P47: what is no line, by ErrWord, with the sum that it should have.
func TestReadNoWords(t *testing.T) {
	for _, said := range []string{
		"", " ", "x", "rule", "ruless", "Rules", "RULES", " rules", "rules ", "rules  ", "rules\t", "get 0 0 0 a", "audit", "yes",
		"rules 0", "rules 0 0 0 1 0", "rules 0 0 0 1 0 ", "rules 0 0 0 1 0 yes ", "rules  0 0 0 1 0 yes", "rules 0  0 0 1 0 yes", "rules 0 0 0 1 0  yes",
		"rules 0 0 0 1 0 Yes", "rules 0 0 0 1 0 YES", "rules 0 0 0 1 0 true", "rules 0 0 0 1 0 1", "rules 0 0 0 1 0 y", "rules 0 0 0 1 0 yess", "rules 0 0 0 1 0 non",
		"rules 0 0 0 1 0 yes 0", "rules 0 0 0 1 0 yes no", "rules 0 0 0 1 0 yes 0 0 0 1 0", "rules 0 0 0 1 yes", "rules 0 0 0 1 0 0 yes", "rules yes 0 0 0 1 0", "rules,0 0 0 1 0 yes",
		"rules x 0 0 1 0 yes", "rules 0 x 0 1 0 yes", "rules 0 0 x 1 0 yes", "rules 0 0 0 x 0 yes", "rules 0 0 0 1 x yes", "rules 0 0 0 1 0 yes 0 0 0 1 x no",
		"rules +1 0 0 1 0 yes", "rules 0 01 0 1 0 yes", "rules 0 0 -0 1 0 yes", "rules 0 0 0 1.0 0 yes", "rules 0 0 0 1 00 yes", "rules 0 0 0 1 0x1 yes",
		"rules 0 0 0 1 1000000000 yes", "rules -100000000 0 0 1 0 yes", "rules 0 0 0 18446744073709551617 0 yes",
		"put", "put ", "put 0 0 0", "put 0 0 0 ", "put 0 0 a;0;;", "put 0 0 0 0 a;0;;", "put a;0;; 0 0 0", "put 0 0 0 a;0;; ", "put 0 0 0  a;0;;", "put  0 0 0 a;0;;", "put 0 0 0 a;0;; b;0;;", "puta;0;;",
		"put x 0 0 a;0;;", "put 0 x 0 a;0;;", "put 0 0 x a;0;;", "put +0 0 0 a;0;;", "put 00 0 0 a;0;;", "put 0 -0 0 a;0;;", "put 0 0 01 a;0;;", "put 0 0 1000000000 a;0;;",
		"put 0 0 0 a", "put 0 0 0 a;0;", "put 0 0 0 a;0;;;", "put 0 0 0 a;;;", "put 0 0 0 a;00;;", "put 0 0 0 a;0;k;", "put 0 0 0 a;0;k=a b;", "put 0 0 0 a;0;;b c",
		"put 0 0 0 ;0;;", "put 0 0 0 A;0;;", "put 0 0 0 a;-1;;", "put 0 0 0 a;256;;", "put 0 0 0 a;0;k=v,k=w;", "put 0 0 0 a;0;;b,a", "put 0 0 0 a;0;a=,b=,c=,d=,e=,f=,g=;", "put 0 0 0 a;0;;a,b,c,d,e",
		"cut", "cut 0 0 0 a", "cut 0 0 0 a ", "cut 0 0 0 1", "cut 0 0 a 1", "cut 0 0 0 0 a 1", "cut 0 0 0 a 1 ", "cut 0 0 0 a  1", "cut  0 0 0 a 1", "cut 0 0 0 a 1 1", "cut 0 0 0 1 a", "cut 0 0 0 a b 1", "cut 0 0 0 a;1;;",
		"cut x 0 0 a 1", "cut 0 x 0 a 1", "cut 0 0 x a 1", "cut 0 0 0 a x", "cut 0 0 0 a +1", "cut 0 0 0 a 01", "cut 0 0 0 a -0", "cut 0 00 0 a 1", "cut 0 0 0 a 1000000000", "cut 0 0 0 a -100000000", "cut 0 0 1e1 a 1",
	} {
		refuseRead(t, line(said), api.ErrWord)
	}
}

// P47: words as they should be, that say what no log has.
func TestReadChecks(t *testing.T) {
	for want, all := range map[api.Errno][]string{
		api.ErrArg: {
			"rules -2 0 0 1 0 yes", "rules 8 0 0 1 0 no", "rules 0 4 0 1 0 yes", "rules 0 0 -1 1 0 yes", "rules 0 0 0 1001 0 yes", "rules 0 0 0 1 256 yes", "rules 0 0 0 1 -1 yes", "rules 999999999 0 0 1 0 yes", "rules 0 0 0 0 -99999999 no",
			"put 8 0 0 a;0;;", "put -1 0 0 a;0;;", "put 0 4 0 a;0;;", "put 0 0 1000 a;0;;", "put 0 0 999999999 a;0;;", "put 0 0 -99999999 a;0;;",
			"cut 8 0 0 a 1", "cut 0 -1 0 a 1", "cut 0 0 1000 a 1", "cut 0 0 0 a 256", "cut 0 0 0 a -1", "cut 0 0 0 A 256", "cut 8 0 0 A 1", "cut 0 0 0 a 999999999",
		},
		api.ErrForm: {
			"rules 0 0 0 0 0 yes", "rules 0 0 0 1 0 yes 0 0 5 4 0 no", "rules 0 0 0 0 0 yes 8 0 0 1 0 yes",
			"cut 0 0 0 A 1", "cut 0 0 0  1", "cut 0 0 0 a; 1", "cut 0 0 0 123456789 1", "cut 0 0 0 - 1", "cut 0 0 0 \xff 1", "cut 0 0 0 a\t 1", "cut 0 0 0 a\x00 1",
		},
		api.ErrLarge: {
			"rules" + strings.Repeat(" 0 0 0 1 0 yes", 21), "rules" + strings.Repeat(" 9 9 0 0 999 no", 21), "rules" + strings.Repeat(" 0 0 0 1 0 no", 10000),
		},
	} {
		for _, said := range all {
			refuseRead(t, line(said), want)
		}
	}
}

// P47: which error is told first.
func TestReadOrder(t *testing.T) {
	for s, want := range map[string]api.Errno{
		"x":                                   api.ErrShort,
		"x =01":                               api.ErrShort,
		"x\nrules =0\n":                       api.ErrWord,
		"rules =01652\nrules =1651\n":         api.ErrWord,
		"x =1\nrules =1651\n":                 api.ErrSum,
		"put 8 0 0 A;;; =1\n":                 api.ErrSum,
		"cut 8 0 0 A 256 =1\n":                api.ErrSum,
		"cut 8 0 0 A 256 =65521\n":            api.ErrWord,
		line("put 8 0 0 A;0;;"):               api.ErrWord,
		line("put 8 0 0 a;256;;"):             api.ErrWord,
		line("rules 8 0 0 1 0 yes 0"):         api.ErrWord,
		line("rules 0 0 0 0 0 yes 0 0 0 1 x"): api.ErrWord,
		line("rules" + strings.Repeat(" 0 0 0 1 0 yes", 21) + " x"):                 api.ErrWord,
		line("rules" + strings.Repeat(" 0 0 0 1 0 yes", 21) + " 0 0 0 1 0 perhaps"): api.ErrWord,
		line("cut 8 0 0 A 00"): api.ErrWord,
	} {
		refuseRead(t, s, want)
	}
}

// P47: the least and the greatest sum there may be, and how they may not be written.
func TestReadEndsOfSums(t *testing.T) {
	said := map[int]string{}
	for i := range 500000 {
		// Of many lengths, for sums around all of what 65521 is taken from.
		s := fmt.Sprintf("put 0 0 0 a;0;k=%d,m=%s,n=%s;", i, strings.Repeat("z", i%12), strings.Repeat("z", i%13))
		if sum := wantSum(s); sum == 0 || sum == 65520 {
			said[sum] = s
		}
	}
	if len(said) != 2 {
		t.Fatal("there are just", said)
	}
	for sum, s := range said {
		l := fmt.Sprintf("%s =%d\n", s, sum)
		if o, n, e := log.Read(l); o.Kind != api.DoPut || n != len(l) || e != api.OK {
			t.Errorf("Read(%q) = %v, %v, %v", l, text(o), n, e)
		}
	}
	for _, bad := range []string{"00", "-0", "+0", "", "65521", "131042", "-65521"} {
		refuseRead(t, said[0]+" ="+bad+"\n", api.ErrWord)
	}
	for _, bad := range []string{"-1", "065520", "+65520", "131041"} {
		refuseRead(t, said[65520]+" ="+bad+"\n", api.ErrWord)
	}
}

const (
	numberForm = `(0|[1-9][0-9]{0,8}|-[1-9][0-9]{0,7})`
	whoForm    = numberForm + " " + numberForm + " " + numberForm
	ruleForm   = " " + whoForm + " " + numberForm + " " + numberForm + " (yes|no)"
)

var (
	linePattern  = regexp.MustCompile(`\A([^\n]*)\n`)
	sumPattern   = regexp.MustCompile(`\A((?s:.*)) =(0|[1-9][0-9]{0,4})\z`)
	rulesPattern = regexp.MustCompile(`\Arules(` + ruleForm + `)*\z`)
	rulePattern  = regexp.MustCompile(ruleForm)
	putPattern   = regexp.MustCompile(`\Aput ` + whoForm + ` ([^ ]*)\z`)
	cutPattern   = regexp.MustCompile(`\Acut ` + whoForm + ` ([^ ]*) ` + numberForm + `\z`)
)

func numbersOf(l ...string) []int {
	var all []int
	for _, s := range l {
		n, _ := strconv.Atoi(s)
		all = append(all, n)
	}
	return all
}

func whoOf(m []string) api.Who {
	n := numbersOf(m[1:4]...)
	return api.Who{Role: n[0], Why: n[1], Time: n[2]}
}

// wantSaidOp goes by patterns.
func wantSaidOp(said string) (api.Op, bool) {
	if rulesPattern.MatchString(said) {
		o := rulesOf()
		for _, m := range rulePattern.FindAllStringSubmatch(said, -1) {
			n := numbersOf(m[1:6]...)
			o.Rules = append(o.Rules, api.Rule{Role: n[0], Why: n[1], From: n[2], To: n[3], Cats: n[4], Allow: m[6] == "yes"})
		}
		return o, true
	}
	if m := putPattern.FindStringSubmatch(said); m != nil {
		r, e := record.Read(m[4])
		return put(whoOf(m), r), e == api.OK
	}
	if m := cutPattern.FindStringSubmatch(said); m != nil {
		return cut(whoOf(m), m[4], numbersOf(m[5])[0]), true
	}
	return api.Op{}, false
}

func wantRead(s string) (api.Op, int, api.Errno) {
	first := linePattern.FindStringSubmatch(s)
	if first == nil {
		return api.Op{}, 0, api.ErrShort
	}
	m := sumPattern.FindStringSubmatch(first[1])
	if m == nil || len(m[2]) == 5 && m[2] > "65520" {
		return api.Op{}, 0, api.ErrWord
	}
	if m[2] != strconv.Itoa(wantSum(m[1])) {
		return api.Op{}, 0, api.ErrSum
	}
	o, isOp := wantSaidOp(m[1])
	if !isOp {
		return api.Op{}, 0, api.ErrWord
	}
	if e := wantCheck(o); e != api.OK {
		return api.Op{}, 0, e
	}
	return o, len(first[0]), api.OK
}

// compareRead holds Read against the model, and against Write.
func compareRead(t *testing.T, s string) api.Errno {
	t.Helper()
	want, wantBytes, wantErr := wantRead(s)
	o, n, e := log.Read(s)
	if text(o) != text(want) || n != wantBytes || e != wantErr {
		t.Fatalf("Read(%q) = %v, %v, %v, want %v, %v, %v", s, text(o), n, e, text(want), wantBytes, wantErr)
	}
	if e == api.OK {
		if again, e := log.Write(o); again != s[:n] || e != api.OK {
			t.Fatalf("Read(%q) = %v, of which Write makes %q, %v", s, text(o), again, e)
		}
	}
	return e
}

// checkTold looks whether each of these errors was told.
func checkTold(t *testing.T, codes map[api.Errno]int, all ...api.Errno) {
	t.Helper()
	for _, e := range all {
		if codes[e] == 0 {
			t.Error("the error was never told:", e)
		}
	}
}

// changed calls f with each text that is s, but for a byte that is another one,
// is not there, or is there twice.
func changed(s string, f func(s string)) {
	for i := range len(s) {
		for _, c := range []byte("\x00\n 0129-+=;,aAkvynop\xff") {
			f(s[:i] + string([]byte{c}) + s[i+1:])
			f(s[:i] + string([]byte{c}) + s[i:])
		}
		f(s[:i] + s[i+1:])
		f(s[:i+1] + s[i:])
	}
}

// P47: damaged lines are not read as something else.
func TestReadDamagedLines(t *testing.T) {
	for _, x := range goodLines()[:16] {
		s := line(x.said)
		changed(s, func(damaged string) {
			if e := compareRead(t, damaged); e == api.OK && !strings.HasPrefix(damaged, s) {
				t.Errorf("Read(%q) has no error; the line was %q", damaged, s)
			}
		})
	}
}

// P47: changed lines, with the sum that they should have then.
func TestReadChangedLines(t *testing.T) {
	codes := map[api.Errno]int{}
	for _, x := range goodLines() {
		changed(x.said, func(said string) { codes[compareRead(t, line(said))]++ })
	}
	checkTold(t, codes, api.OK, api.ErrArg, api.ErrForm, api.ErrWord)
}

// P47: many texts of words that fit now and then.
func TestReadManyTexts(t *testing.T) {
	n := rand.New(rand.NewPCG(47, 74))
	begins := []string{"rules ", "put 0 0 0 ", "cut 0 0 0 ", "rules 0 0 0 1 0 yes ", "cut ", "put ", ""}
	parts := []string{" ", " ", " ", " ", "0", "1", "0 ", "1 ", "-1 ", "256 ", "yes", "no", "a", "a ", "a;0;;", "A", "rules", "put", "cut", "0 0 0 ", "0 0 0 1 0 yes", " =", "=", "\n"}
	codes := map[api.Errno]int{}
	for range 60000 {
		s := begins[n.IntN(len(begins))]
		for range n.IntN(7) {
			s += parts[n.IntN(len(parts))]
		}
		codes[compareRead(t, s)]++
		codes[compareRead(t, line(s))]++
		codes[compareRead(t, line(strings.TrimRight(s, " \n")))]++
	}
	checkTold(t, codes, api.OK, api.ErrArg, api.ErrForm, api.ErrShort, api.ErrWord)
}

// P1: whatever it is given, it answers.
func TestLargeTexts(t *testing.T) {
	for _, piece := range []string{" ", "=", " =", " 0", "0 ", " 0 0 0 1 0 yes", ";", "a", "\x00", "\xff"} {
		long := strings.Repeat(piece, 1<<18)
		for _, begin := range []string{"", "rules", "put 0 0 0 ", "cut 0 0 0 "} {
			refuseRead(t, begin+long, api.ErrShort)
			if o, n, e := log.Read(line(begin + long)); text(o) != text(api.Op{}) || n != 0 || e == api.OK || e == api.ErrShort {
				t.Errorf("Read of %q and many %q = %v, %v", begin, piece, n, e)
			}
		}
	}
	checkRead(t, "rules =1651\n"+strings.Repeat("x", 1<<24), rulesOf(), 12)
}
