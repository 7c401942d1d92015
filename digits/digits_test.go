package digits_test

import (
	"bytes"
	"math"
	"slices"
	"strconv"
	"strings"
	"testing"

	"coroner/api"
	"coroner/digits"
)

// isText asks whether s is a number's text, by the chapter's words alone.
func isText(s string) bool {
	if s == "" || strings.Trim(s, "0123456789") != "" || len(s) > 1 && s[0] == '0' {
		return false
	}
	n, err := strconv.ParseUint(s, 10, 64)
	return err == nil && n <= 2147483647
}

// wantParse is what P1.1 asks for: the digits from at on, and of them the longest beginning that is a number's text.
func wantParse(s string, at int) (int, int, bool) {
	if at < 0 || at > len(s) {
		return 0, 0, false
	}
	end := at
	for end < len(s) && strings.IndexByte("0123456789", s[end]) >= 0 {
		end++
	}
	if isText(s[at:end]) {
		n, _ := strconv.Atoi(s[at:end])
		return n, end, true
	}
	wrong := at
	for wrong < end && isText(s[at:wrong+1]) {
		wrong++
	}
	return 0, wrong, false
}

// wantList is what P1.3 asks for, one number ahead of the rest.
func wantList(s string, at int) ([]int, int, bool) {
	if at < 0 || at > len(s) {
		return nil, 0, false
	}
	if at == len(s) || s[at] != ' ' {
		return nil, at, true
	}
	n, to, is := wantParse(s, at+1)
	if !is {
		return nil, to, false
	}
	rest, to, is := wantList(s, to)
	if !is {
		return nil, to, false
	}
	return append([]int{n}, rest...), to, true
}

func testParse(t *testing.T, s string, at, n, to int, is bool) {
	t.Helper()
	if gn, gto, gis := digits.Parse([]byte(s), at); gn != n || gto != to || gis != is {
		t.Errorf("Parse(%q, %d) is %d, %d, %t, not %d, %d, %t", s, at, gn, gto, gis, n, to, is)
	}
}

func testList(t *testing.T, s string, at int, l []int, to int, is bool) {
	t.Helper()
	if gl, gto, gis := digits.List([]byte(s), at); !slices.Equal(gl, l) || gto != to || gis != is {
		t.Errorf("List(%q, %d) is %v, %d, %t, not %v, %d, %t", s, at, gl, gto, gis, l, to, is)
	}
}

// eachText goes through all texts of some letters, up to a length.
func eachText(letters string, most int, do func(s string)) {
	var grow func(s string)
	grow = func(s string) {
		do(s)
		if len(s) < most {
			for _, x := range letters {
				grow(s + string(x))
			}
		}
	}
	grow("")
}

// P1.1: numbers, wherever they stand, and what stands behind them.
func TestParseNumbers(t *testing.T) {
	testParse(t, "0", 0, 0, 1, true)
	testParse(t, "7", 0, 7, 1, true)
	testParse(t, "10", 0, 10, 2, true)
	testParse(t, "1000000000", 0, 1000000000, 10, true)
	testParse(t, "0 5", 0, 0, 1, true)
	testParse(t, "0x", 0, 0, 1, true)
	testParse(t, "90\n", 0, 90, 2, true)
	testParse(t, "ab12cd", 2, 12, 4, true)
	testParse(t, "1234", 1, 234, 4, true)
	testParse(t, "10", 1, 0, 2, true)
	testParse(t, "1_0", 0, 1, 1, true)
}

// P1.1: the greatest number, and what is one too great, with its place.
func TestParseGreatest(t *testing.T) {
	testParse(t, "2147483646", 0, 2147483646, 10, true)
	testParse(t, "2147483647", 0, 2147483647, 10, true)
	testParse(t, "2147483647 ", 0, 2147483647, 10, true)
	testParse(t, "2147483648", 0, 0, 9, false)
	testParse(t, "2147483650", 0, 0, 9, false)
	testParse(t, "3000000000", 0, 0, 9, false)
	testParse(t, "9999999999", 0, 0, 9, false)
	testParse(t, "1000000000", 0, 1000000000, 10, true)
	testParse(t, "10000000000", 0, 0, 10, false)
	testParse(t, "21474836470", 0, 0, 10, false)
	testParse(t, "2147483648000000", 0, 0, 9, false)
	testParse(t, "x2147483648", 1, 0, 10, false)
	for _, n := range []int{20, 40, 1000} { // past every kind of int
		testParse(t, strings.Repeat("9", n), 0, 0, 9, false)
		testParse(t, "1"+strings.Repeat("0", n), 0, 0, 10, false)
		testParse(t, strings.Repeat("0", n), 0, 0, 1, false)
	}
	testParse(t, "4294967297", 0, 0, 9, false)            // 1, if 32 bits wrap round
	testParse(t, "18446744073709551617", 0, 0, 10, false) // 1, if 64 bits do
}

// P1.1: no digit, a digit behind a first 0, and which comes first.
func TestParseWrong(t *testing.T) {
	testParse(t, "", 0, 0, 0, false)
	testParse(t, "x", 0, 0, 0, false)
	testParse(t, "5x", 1, 0, 1, false)
	testParse(t, "5", 1, 0, 1, false)
	testParse(t, "-1", 0, 0, 0, false)
	testParse(t, "+1", 0, 0, 0, false)
	testParse(t, " 1", 0, 0, 0, false)
	testParse(t, "00", 0, 0, 1, false)
	testParse(t, "007", 0, 0, 1, false)
	testParse(t, "x007", 1, 0, 2, false)
	testParse(t, "1034", 1, 0, 2, false)
	testParse(t, "02147483648", 0, 0, 1, false)
}

// P1.1: a place that is not from 0 to the end.
func TestParsePlaces(t *testing.T) {
	for _, s := range []string{"", "5", "12 34"} {
		for _, at := range []int{-1, -2, math.MinInt, len(s) + 1, len(s) + 2, math.MaxInt} {
			testParse(t, s, at, 0, 0, false)
			testList(t, s, at, nil, 0, false)
		}
	}
	for _, at := range []int{-1, 0, 1} {
		if n, to, is := digits.Parse(nil, at); n != 0 || to != 0 || is {
			t.Errorf("Parse(nil, %d) is %d, %d, %t", at, n, to, is)
		}
		if l, to, is := digits.List(nil, at); len(l) != 0 || to != 0 || is != (at == 0) {
			t.Errorf("List(nil, %d) is %v, %d, %t", at, l, to, is)
		}
	}
}

// P1.1, P1.3: of all bytes ten are digits, and one is a blank.
func TestBytes(t *testing.T) {
	for x := range 256 {
		s := string([]byte{byte(x)})
		isDigit := x >= 48 && x <= 57
		if isDigit {
			testParse(t, s, 0, x-48, 1, true)
			testParse(t, "1"+s, 0, 10+x-48, 2, true)
		} else {
			testParse(t, s, 0, 0, 0, false)
			testParse(t, "1"+s+"2", 0, 1, 1, true)
		}
		switch {
		case x == 32:
			testList(t, s, 0, nil, 1, false)
			testList(t, s+"1", 0, []int{1}, 2, true)
		case isDigit:
			testList(t, s+"1", 0, nil, 0, true)
			testList(t, " 1"+s, 0, []int{10 + x - 48}, 3, true)
		default:
			testList(t, s+"1", 0, nil, 0, true)
			testList(t, " 1"+s+"2", 0, []int{1}, 2, true)
			testList(t, " "+s, 0, nil, 1, false)
		}
	}
	testParse(t, "\u0663", 0, 0, 0, false) // a digit of another script is two bytes, and no digit
	testParse(t, "1\u0663", 0, 1, 1, true)
}

// P1.1, P1.3: all short texts, from all places, as the chapter's words have them.
func TestAllShort(t *testing.T) {
	eachText("0195 x", 5, func(s string) {
		for at := -1; at <= len(s)+1; at++ {
			n, to, is := wantParse(s, at)
			testParse(t, s, at, n, to, is)
			l, to, is := wantList(s, at)
			testList(t, s, at, l, to, is)
		}
	})
}

// P1.1, P1.3: all ends of texts near the greatest number.
func TestAllNearGreatest(t *testing.T) {
	eachText("0123456789", 4, func(s string) {
		s = "2147483" + s
		n, to, is := wantParse(s, 0)
		testParse(t, s, 0, n, to, is)
		s = " 1 " + s + " 3"
		l, to, is := wantList(s, 0)
		testList(t, s, 0, l, to, is)
	})
}

// P1.2: texts and their widths.
func TestPrint(t *testing.T) {
	test := func(n int) {
		s, e := digits.Print(n)
		if want := strconv.Itoa(n); s != want || e != api.OK || digits.Width(n) != len(want) {
			t.Errorf("Print(%d) is %q, %d, and Width %d", n, s, e, digits.Width(n))
		}
	}
	for n := range 100000 {
		test(n)
	}
	for n := 10; n <= api.MaxNumber; n *= 10 {
		for _, k := range []int{n - 1, n, n + 1, 2 * n, n + n/3} {
			test(k)
		}
	}
	for n := 1; n <= api.MaxNumber; n = 3*n + 1 {
		test(n)
	}
	for n := range 1000 {
		test(api.MaxNumber - n)
	}
}

// P1.2: numbers that have no text.
func TestPrintWrong(t *testing.T) {
	for _, n := range []int{-1, -10, -2147483648, math.MinInt, api.MaxNumber + 1, 9999999999, 1 << 32, 1<<32 + 1, math.MaxInt} {
		if s, e := digits.Print(n); s != "" || e != api.ErrArg || digits.Width(n) != 0 {
			t.Errorf("Print(%d) is %q, %d, and Width %d", n, s, e, digits.Width(n))
		}
	}
}

// P1.3: lists, where they end, and from where they begin.
func TestList(t *testing.T) {
	testList(t, "", 0, nil, 0, true)
	testList(t, "x", 0, nil, 0, true)
	testList(t, "5", 0, nil, 0, true)
	testList(t, "5", 1, nil, 1, true)
	testList(t, " 5 70", 0, []int{5, 70}, 5, true)
	testList(t, " 5 70\n", 0, []int{5, 70}, 5, true)
	testList(t, " 5 70 x", 5, nil, 6, false)
	testList(t, "5 70", 1, []int{70}, 4, true)
	testList(t, " 5 70", 5, nil, 5, true)
	testList(t, " 5 70", 4, nil, 4, true)
	testList(t, " 5 5 0 5", 0, []int{5, 5, 0, 5}, 8, true)
	testList(t, " 5x 70", 0, []int{5}, 2, true)
	testList(t, " 2147483647 0", 0, []int{2147483647, 0}, 13, true)
	testList(t, " 1\t2", 0, []int{1}, 2, true)
}

// P1.3: the first wrong place, and nothing beside it.
func TestListWrong(t *testing.T) {
	testList(t, " ", 0, nil, 1, false)
	testList(t, "  1", 0, nil, 1, false)
	testList(t, " x", 0, nil, 1, false)
	testList(t, " 1 ", 0, nil, 3, false)
	testList(t, " 1  2", 0, nil, 3, false)
	testList(t, " 1 2 02 3", 0, nil, 6, false)
	testList(t, " 1 2147483648", 0, nil, 12, false)
	testList(t, " 02 2147483648", 0, nil, 2, false)
	testList(t, " 1 -2", 0, nil, 3, false)
}

// P1.3: a long list comes back whole.
func TestListLong(t *testing.T) {
	var b []byte
	var want []int
	for n := range 20000 {
		want = append(want, n*n)
		b = strconv.AppendInt(append(b, ' '), int64(n*n), 10)
	}
	testList(t, string(b), 0, want, len(b), true)
	testList(t, string(b)+" ", 0, nil, len(b)+1, false)
}

// P1.4: a number comes back from its text, and a list from theirs.
func TestComesBack(t *testing.T) {
	var b []byte
	var want []int
	test := func(n int) {
		s, e := digits.Print(n)
		if e != api.OK {
			t.Fatalf("Print(%d) answers error %d", n, e)
		}
		testParse(t, s, 0, n, len(s), true)
		testParse(t, "a "+s+" 9", 2, n, 2+len(s), true)
		want = append(want, n)
		b = append(append(b, ' '), s...)
	}
	for n := range 3000 {
		test(n)
		test(n * n)
		test(api.MaxNumber - n)
	}
	testList(t, string(b), 0, want, len(b), true)
}

// P1.4: what stands ahead of a wrong place is a number's text, or nothing; with the digit that is there it is none.
func TestAheadOfWrong(t *testing.T) {
	eachText("0279x", 6, func(s string) {
		for _, s := range []string{s, "21474836" + s, "214748364" + s} {
			_, to, is := digits.Parse([]byte(s), 0)
			if is {
				continue
			}
			if to > 0 && !isText(s[:to]) {
				t.Errorf("Parse(%q, 0): %q is no number's text", s, s[:to])
			}
			if to < len(s) && isText(s[:to+1]) {
				t.Errorf("Parse(%q, 0): nothing is wrong at %d", s, to)
			}
		}
	})
}

// R3: bytes that are handed in are left as they are, their spare room too, and what is answered is nobody else's.
func TestShareNothing(t *testing.T) {
	whole := []byte("12 3 45 678 x9 9")
	b := whole[:11]
	was := bytes.Clone(whole)
	first, to, is := digits.List(b, 2)
	if !is || to != 11 || !slices.Equal(first, []int{3, 45, 678}) {
		t.Fatal(first, to, is)
	}
	for i := range first[:cap(first)] {
		first[:cap(first)][i] = -1
	}
	if second, _, _ := digits.List(b, 2); !slices.Equal(second, []int{3, 45, 678}) {
		t.Errorf("a second answer is %v", second)
	}
	digits.Parse(b, 0)
	if !bytes.Equal(whole, was) {
		t.Errorf("the bytes became %q", whole)
	}
	second, _, _ := digits.List(b, 2)
	for i := range b {
		b[i] = '0'
	}
	if !slices.Equal(second, []int{3, 45, 678}) {
		t.Errorf("an answer became %v with the bytes", second)
	}
}

// R4: the same arguments have the same answer, whatever was asked before.
func TestSameAgain(t *testing.T) {
	for range 3 {
		testParse(t, "2147483648", 0, 0, 9, false)
		testParse(t, "31", 0, 31, 2, true)
		testList(t, " 1 02", 0, nil, 4, false)
		testList(t, " 1 2", 0, []int{1, 2}, 4, true)
		if s, e := digits.Print(31); s != "31" || e != api.OK {
			t.Error(s, e)
		}
		if s, e := digits.Print(-1); s != "" || e != api.ErrArg {
			t.Error(s, e)
		}
	}
}
