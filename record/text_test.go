package record_test

import (
	"math/rand/v2"
	"regexp"
	"slices"
	"strconv"
	"strings"
	"testing"

	"withy/api"
	"withy/record"
)

type goodText struct {
	r api.Record
	s string
}

// goodTexts are records, each with its text.
func goodTexts() []goodText {
	return []goodText{
		{api.Record{Id: "a1", Cats: 5, Fields: []api.Field{{Key: "k", Value: "v"}}, Refs: []string{"b"}}, "a1;5;k=v;b"},
		{api.Record{Id: "a"}, "a;0;;"},
		{api.Record{Id: "0", Cats: 10}, "0;10;;"},
		{api.Record{Id: "abcdefgh", Cats: 255}, "abcdefgh;255;;"},
		{api.Record{Id: "a", Fields: []api.Field{{Key: "k"}}}, "a;0;k=;"},
		{api.Record{Id: "a", Refs: []string{"b"}}, "a;0;;b"},
		{api.Record{Id: "a", Refs: []string{"b", "c", "d", "e"}}, "a;0;;b,c,d,e"},
		{api.Record{Id: "a", Cats: 100, Fields: []api.Field{{Key: "k"}, {Key: "m"}}, Refs: []string{"b", "c"}}, "a;100;k=,m=;b,c"},
		{
			api.Record{Id: "x", Cats: 1, Fields: fieldsOf("1", "a", "b", "c", "d", "zz"), Refs: []string{"10", "9"}},
			"x;1;1=1,a=A,b=B,c=C,d=D,zz=ZZ;10,9",
		},
		{api.Record{Id: "a", Fields: []api.Field{{Key: "k", Value: "!\"#$%&'()*+-"}}}, "a;0;k=!\"#$%&'()*+-;"},
		{api.Record{Id: "a", Fields: []api.Field{{Key: "k", Value: "./:<>?@[]^`~"}}}, "a;0;k=./:<>?@[]^`~;"},
	}
}

// P19: the fourth example of the document, and each part with nothing, one, and more in it.
func TestWrite(t *testing.T) {
	for _, x := range goodTexts() {
		if s, e := record.Write(x.r); s != x.s || e != api.OK {
			t.Errorf("Write(%v) = %q, %v, want %q", x.r, s, e, x.s)
		}
	}
}

// P20: what was written is read as it was.
func TestRead(t *testing.T) {
	for _, x := range goodTexts() {
		if r, e := record.Read(x.s); !isSame(r, x.r) || e != api.OK {
			t.Errorf("Read(%q) = %v, %v, want %v", x.s, r, e, x.r)
		}
	}
}

// P19, P20: each number of kinds, and each record that is one.
func TestWriteAndRead(t *testing.T) {
	var all []api.Record
	for cats := range 256 {
		all = append(all, api.Record{Id: "a", Cats: cats})
	}
	n := rand.New(rand.NewPCG(15, 92))
	for range 20000 {
		all = append(all, someRecord(n))
	}
	for _, r := range append(all, goodRecords()...) {
		if wantCheck(r) != api.OK {
			continue
		}
		s, e := record.Write(r)
		if s != wantText(r) || e != api.OK {
			t.Errorf("Write(%v) = %q, %v", r, s, e)
		}
		if got, e := record.Read(s); !isSame(got, r) || e != api.OK {
			t.Errorf("Read(%q) = %v, %v, want %v", s, got, e, r)
		}
	}
}

// wantText goes piece by piece, each with what stands ahead of it.
func wantText(r api.Record) string {
	s := r.Id + ";" + strconv.Itoa(r.Cats) + ";"
	for i, f := range r.Fields {
		s += strings.Repeat(",", min(i, 1)) + f.Key + "=" + f.Value
	}
	s += ";"
	for i, ref := range r.Refs {
		s += strings.Repeat(",", min(i, 1)) + ref
	}
	return s
}

// P20, P2: what is no text of a record, by which error, and nothing else is answered.
func TestReadRefuses(t *testing.T) {
	for want, texts := range map[api.Errno][]string{
		api.ErrWord: {
			"", "a", ";", ";;", "a;0", "a;0;", "a;0;;;", ";;;;", "a;0;k=v;b;", ";a;0;;", "a,0,,", "a;0;;;;;;",
			"a;;;", "a;-;;", "a;00;;", "a;01;;", "a;-0;;", "a;-00;;", "a;-01;;", "a;--1;;", "a;+1;;", "a;+0;;",
			"a; 1;;", "a;1 ;;", "a;1\n;;", "a;x;;", "a;1x;;", "a;0x1;;", "a;0b1;;", "a;1_0;;", "a;1.0;;", "a;1e1;;", "a;1,2;;", "a;٣;;", "a;1\x00;;",
			"a;1000000000;;", "a;-100000000;;", "a;0000000000;;", "a;9223372036854775807;;", "a;18446744073709551616;;", "a;18446744073709551617;;", "a;-9223372036854775808;;",
			"a;0;k;", "a;0;k=v,;", "a;0;,k=v;", "a;0;,;", "a;0;k=v,,m=w;", "a;0;k=v,m;", "a;0;k,m=w;", "a;0; ;",
		},
		api.ErrForm: {
			";0;;", "A;0;;", " a;0;;", "a ;0;;", "a\n;0;;", "abcdefghi;0;;", "a,b;0;;", "a=b;0;;",
			"a;0;=;", "a;0;=v;", "a;0;K=v;", "a;0;k =v;", "a;0;abcdefghi=v;", "a;0;k==;", "a;0;k=v=w;", "a;0;k=v w;", "a;0;k=1234567890123;", "a;0;k=\xff;",
			"a;0;k=v,k=w;", "a;0;k=v,k=v;", "a;0;m=,k=;", "a;0;a=,9=;", "a;0;9=,10=;", "a;0;k=v,=;",
			"a;0;;B", "a;0;; ", "a;0;;,", "a;0;;b,", "a;0;;,b", "a;0;;b,,c", "a;0;;b,b", "a;0;;c,b", "a;0;;9,10", "a;0;;b=c", "a;0;;b\n", "a;0;;abcdefghi",
		},
		api.ErrArg: {
			"a;-1;;", "a;256;;", "a;257;;", "a;1000;;", "a;-255;;", "a;100000000;;", "a;999999999;;", "a;-9999999;;", "a;-10000000;;", "a;-99999999;;",
		},
		api.ErrLarge: {
			"a;0;a=,b=,c=,d=,e=,f=,g=;", "a;0;;b,c,d,e,f", "a;0;=,=,=,=,=,=,=;", "a;0;;,,,,", "a;0;;b,b,b,b,b",
			"a;0;" + strings.Repeat("k=v,", 5000) + "k=v;" + strings.Repeat("b,", 5000),
		},
	} {
		for _, s := range texts {
			refuseRead(t, s, want)
		}
	}
}

// P20, P16: ErrWord of each part is told ahead of Check's errors, and these in their order.
func TestReadOrder(t *testing.T) {
	for s, want := range map[string]api.Errno{
		"A;;;":                        api.ErrWord,
		"A;0;k;":                      api.ErrWord,
		"A;-1;k;B":                    api.ErrWord,
		"a;256;k;":                    api.ErrWord,
		"a;-0;k=v=w;B":                api.ErrWord,
		"a;0;,,,,,,,;b":               api.ErrWord,
		"a;0;a=,b=,c=,d=,e=,f=,g=,h;": api.ErrWord,
		"a;00;;b,c,d,e,f":             api.ErrWord,
		"A;-1;;;":                     api.ErrWord,
		"A;-1;;":                      api.ErrForm,
		"A;0;;b,c,d,e,f":              api.ErrForm,
		"a;256;;b,c,d,e,f":            api.ErrArg,
		"a;256;K=;B":                  api.ErrArg,
		"a;0;K=;b,c,d,e,f":            api.ErrLarge,
		"a;0;a=,b=,c=,d=,e=,f=,g=;B":  api.ErrLarge,
		"a;0;a=,b=,c=,d=,e=,f=;B":     api.ErrForm,
	} {
		refuseRead(t, s, want)
	}
}

func refuseRead(t *testing.T, s string, want api.Errno) {
	t.Helper()
	if r, e := record.Read(s); !isZero(r) || e != want {
		t.Errorf("Read(%q) = %v, %v, want %v", s, r, e, want)
	}
}

var (
	textPattern   = regexp.MustCompile(`\A([^;]*);([^;]*);([^;]*);([^;]*)\z`)
	numberPattern = regexp.MustCompile(`\A(0|-?[1-9][0-9]*)\z`)
	fieldPattern  = regexp.MustCompile(`\A([^=]*)=((?s:.*))\z`)
	piecePattern  = regexp.MustCompile(`[^,]*`)
)

// wantRead goes by patterns.
func wantRead(s string) (api.Record, api.Errno) {
	m := textPattern.FindStringSubmatch(s)
	if m == nil || !numberPattern.MatchString(m[2]) || len(m[2]) > 9 {
		return api.Record{}, api.ErrWord
	}
	r := api.Record{Id: m[1]}
	r.Cats, _ = strconv.Atoi(m[2])
	if m[3] != "" {
		for _, piece := range piecePattern.FindAllString(m[3], -1) {
			f := fieldPattern.FindStringSubmatch(piece)
			if f == nil {
				return api.Record{}, api.ErrWord
			}
			r.Fields = append(r.Fields, api.Field{Key: f[1], Value: f[2]})
		}
	}
	if m[4] != "" {
		r.Refs = piecePattern.FindAllString(m[4], -1)
	}
	if e := wantCheck(r); e != api.OK {
		return api.Record{}, e
	}
	return r, api.OK
}

// compareRead holds Read against the model, and against Write.
func compareRead(t *testing.T, s string) {
	t.Helper()
	want, wantErr := wantRead(s)
	r, e := record.Read(s)
	if !isSame(r, want) || e != wantErr {
		t.Fatalf("Read(%q) = %v, %v, want %v, %v", s, r, e, want, wantErr)
	}
	if e != api.OK {
		return
	}
	if again, e := record.Write(r); again != s || e != api.OK {
		t.Fatalf("Read(%q) = %v, of which Write makes %q, %v", s, r, again, e)
	}
}

// eachText calls f with each text of at most n of these letters.
func eachText(letters string, n int, f func(s string)) {
	var grow func(s string, n int)
	grow = func(s string, n int) {
		f(s)
		if n == 0 {
			return
		}
		for i := range len(letters) {
			grow(s+letters[i:i+1], n-1)
		}
	}
	grow("", n)
}

// P20: each short text, whole, and of each of the four parts.
func TestReadEachShortText(t *testing.T) {
	eachText("a0;=,-", 6, func(s string) { compareRead(t, s) })
	eachText("aA1,=;", 4, func(s string) { compareRead(t, s+";0;k=v;b") })
	eachText("0129-+ ", 5, func(s string) { compareRead(t, "a;"+s+";;") })
	eachText("abA=,", 6, func(s string) { compareRead(t, "a;7;"+s+";b") })
	eachText("abA=,;", 5, func(s string) { compareRead(t, "a;7;k=v;"+s) })
}

// P20: each text of a number around the bounds, and around 9 bytes.
func TestReadEachNumber(t *testing.T) {
	for n := -1200; n <= 1200; n++ {
		for _, form := range []string{"", "+", "0", "-", " "} {
			compareRead(t, "a;"+form+strconv.Itoa(n)+";;")
		}
	}
	for length := range 30 {
		for _, digit := range []string{"0", "1", "9"} {
			for _, ahead := range []string{"", "-"} {
				compareRead(t, "a;"+ahead+strings.Repeat(digit, length)+";;")
			}
		}
	}
}

// P20: texts of records in which a byte is another one, is not there, or is there twice.
func TestReadChangedTexts(t *testing.T) {
	for _, x := range goodTexts() {
		for i := range len(x.s) {
			eachByte(func(c byte) { compareRead(t, withByte(x.s, i, c)) })
			compareRead(t, x.s[:i])
			compareRead(t, x.s[i:])
			compareRead(t, x.s[:i]+x.s[i+1:])
			compareRead(t, x.s[:i+1]+x.s[i:])
		}
	}
}

// P20: ErrWord and Check's errors, in many texts of pieces that fit now and then.
func TestReadManyTexts(t *testing.T) {
	n := rand.New(rand.NewPCG(65, 35))
	parts := []string{"a", "b", "0", "255", "256", "-1", "k=v", "m=", ",", ",", ";", ";", ";", "=", "A", " "}
	for range 100000 {
		s := ""
		for range n.IntN(14) {
			s += parts[n.IntN(len(parts))]
		}
		compareRead(t, s)
		compareRead(t, "a;0;"+s)
	}
}

// P1: whatever it is given, it answers.
func TestLargeTexts(t *testing.T) {
	for _, piece := range []string{";", ",", "=", "a", "0", "-", "k=v,", "b,", "\x00", "\xff"} {
		long := strings.Repeat(piece, 100000)
		for _, s := range []string{long, long + ";0;;", "a;" + long + ";;", "a;0;" + long + ";", "a;0;;" + long} {
			if r, e := record.Read(s); !isZero(r) || e == api.OK {
				t.Errorf("Read of %d times %q, in %d bytes = %v, %v", 100000, piece, len(s), r, e)
			}
		}
	}
}

// P2: what Read answers is its own each time, room behind it included.
func TestReadAnswersNewMemory(t *testing.T) {
	s := "a;5;k=v,m=w;b,c"
	first, _ := record.Read(s)
	second, _ := record.Read(s)
	wipe(first)
	want := api.Record{Id: "a", Cats: 5, Fields: []api.Field{{Key: "k", Value: "v"}, {Key: "m", Value: "w"}}, Refs: []string{"b", "c"}}
	third, e := record.Read(s)
	if !isSame(second, want) || !isSame(third, want) || e != api.OK {
		t.Error(second, third, e)
	}
	third.Fields = slices.Grow(third.Fields, 1)
	if _, e := record.Set(third, api.Field{Key: "l"}); e != api.OK || !isSame(third, want) {
		t.Error(third, e)
	}
}
