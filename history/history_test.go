package history_test

import (
	"bytes"
	"math"
	"math/rand/v2"
	"regexp"
	"slices"
	"strconv"
	"strings"
	"testing"

	"coroner/api"
	"coroner/history"
)

// testViolation holds the first violation of a text against what it should be.
func testViolation(t *testing.T, s string, most int, e api.Errno, at int) {
	t.Helper()
	h, ge, gat := history.Decode([]byte(s), most)
	if ge != e || gat != at {
		t.Errorf("of %.60q, %d: error %d at %d, not %d at %d", s, most, int(ge), gat, int(e), at)
	}
	if ge != api.OK && h.Txns != nil {
		t.Errorf("of %.60q, %d: beside an error a history %v", s, most, h)
	}
}

func testHistory(t *testing.T, s string, want api.History) {
	t.Helper()
	h, e, at := history.Decode([]byte(s), api.MaxOps)
	if e != api.OK || at != 0 || !history.Same(h, want) {
		t.Errorf("of %q: %v, error %d at %d", s, h, int(e), at)
	}
}

// lines is text of n lines, each with its number.
func lines(n int, line func(i int) string) string {
	var s strings.Builder
	for i := range n {
		s.WriteString(line(i))
	}
	return s.String()
}

func txnLine(i int) string { return "t " + strconv.Itoa(i) + " c\n" }

// P3.1: the history of bytes.
func TestDecode(t *testing.T) {
	testHistory(t, "", api.History{})
	testHistory(t, "t 7 c\na 1 5\nr 1 5\n", api.History{Txns: []api.Txn{{ID: 7, Ops: []api.Op{{Key: 1, Value: 5}, {Read: true, Key: 1, List: []int{5}}}}}})
	testHistory(t, "t 0 a\n", api.History{Txns: []api.Txn{{Aborted: true}}})
	testHistory(t, "t 0 c\nr 0\n", api.History{Txns: []api.Txn{{Ops: []api.Op{{Read: true}}}}})
	testHistory(t, "t 2 a\nt 1 c\na 0 0\nt 0 a\nr 2147483647 2147483647 0 0\na 0 2147483647\na 2147483647 0\n", api.History{Txns: []api.Txn{
		{ID: 2, Aborted: true},
		{ID: 1, Ops: []api.Op{{}}},
		{ID: 0, Aborted: true, Ops: []api.Op{
			{Read: true, Key: 2147483647, List: []int{2147483647, 0, 0}},
			{Value: 2147483647},
			{Key: 2147483647},
		}},
	}})
	testHistory(t, "t 2147483647 c\nt 10 c\nt 1 c\nt 100 c\n", api.History{Txns: []api.Txn{{ID: 2147483647}, {ID: 10}, {ID: 1}, {ID: 100}}})
	if h, e, at := history.Decode(nil, 0); h.Txns != nil || e != api.OK || at != 0 {
		t.Errorf("of nothing: %v, error %d at %d", h, int(e), at)
	}
}

// P3.1: ErrArg ahead of all others.
func TestMost(t *testing.T) {
	for _, s := range []string{"", "x", "t 1 c\n", "t 1 c\nt 1 c\n", strings.Repeat("x", api.MaxBytes+1)} {
		for _, most := range []int{-1, -4096, math.MinInt, 4097, math.MaxInt} {
			testViolation(t, s, most, api.ErrArg, 0)
		}
	}
	for _, most := range []int{0, 1, 4095, 4096} {
		testViolation(t, "t 1 c\n", most, api.OK, 0)
	}
}

// P3.1: ErrSize, if there are too many bytes, ahead of what else they are.
func TestTooManyBytes(t *testing.T) {
	whole := "t 1 c\nr 0" + strings.Repeat(" 1", (api.MaxBytes-10)/2) + "\n"
	if len(whole) != api.MaxBytes {
		t.Fatal(len(whole))
	}
	testViolation(t, whole, 1, api.OK, 0)
	testViolation(t, whole+"r", 1, api.ErrSize, api.MaxBytes)
	testViolation(t, whole+"t 2 c\n", 1, api.ErrSize, api.MaxBytes)
	testViolation(t, whole[:len(whole)-1]+"1", 1, api.ErrSyntax, api.MaxBytes)
	testViolation(t, whole[:len(whole)-1]+"1\n", 1, api.ErrSize, api.MaxBytes)
	testViolation(t, whole, 0, api.ErrSize, 6)
	bad := strings.Repeat("x", api.MaxBytes)
	testViolation(t, bad, 0, api.ErrSyntax, 0)
	testViolation(t, bad+"x", 0, api.ErrSize, api.MaxBytes)
	testViolation(t, bad+bad, 0, api.ErrSize, api.MaxBytes)
}

// P3.1: ErrSyntax, at the first byte that makes the bytes no beginning of a history's.
func TestSyntax(t *testing.T) {
	for _, c := range []struct {
		s  string
		at int
	}{
		{"x", 0}, {"T 1 c\n", 0}, {" ", 0}, {"\n", 0}, {"\x00", 0}, {"\r\n", 0}, {"0", 0}, {"c", 0},
		{"a 0 1\n", 0}, {"r 0\n", 0}, {"a", 0}, {"r", 0}, {"\nt 1 c\n", 0},
		{"t", 1}, {"t ", 2}, {"t 1", 3}, {"t 1 ", 4}, {"t 1 c", 5}, {"t 1 a", 5}, {"tt", 1}, {"t\n", 1}, {"t1 c\n", 1}, {"t  1 c\n", 2}, {"t c\n", 2}, {"t -1 c\n", 2},
		{"t 1c\n", 3}, {"t 1\n", 3}, {"t 1 b\n", 4}, {"t 1  c\n", 4}, {"t 1 C\n", 4}, {"t 1 r\n", 4}, {"t 1 \n", 4}, {"t 1 cc\n", 5}, {"t 1 c \n", 5}, {"t 1 ca\n", 5}, {"t 1 c\r\n", 5}, {"t 1 a1\n", 5},
		{"t 00 c\n", 3}, {"t 01 c\n", 3}, {"t 2147483648 c\n", 11}, {"t 10000000000 c\n", 12}, {"t 99999999999 c\n", 11},
		{"t 1 c\nx", 6}, {"t 1 c\n\n", 6}, {"t 1 c\n ", 6}, {"t 1 c\nc", 6}, {"t 1 c\n1", 6},
		{"t 1 c\na", 7}, {"t 1 c\na ", 8}, {"t 1 c\na 0", 9}, {"t 1 c\na 0 ", 10}, {"t 1 c\na 0 1", 11}, {"t 1 c\na 0\n", 9}, {"t 1 c\na 0 1 2\n", 11}, {"t 1 c\na 0 1 \n", 11}, {"t 1 c\na 0  1\n", 10}, {"t 1 c\na\n", 7}, {"t 1 c\na0 1\n", 7}, {"t 1 c\na 00 1\n", 9}, {"t 1 c\na 0 01\n", 11}, {"t 1 c\na 2147483648 1\n", 17}, {"t 1 c\na 0 2147483648\n", 19}, {"t 1 c\na 0 c\n", 10},
		{"t 1 c\nr", 7}, {"t 1 c\nr ", 8}, {"t 1 c\nr 0", 9}, {"t 1 c\nr 0 ", 10}, {"t 1 c\nr 0 1", 11}, {"t 1 c\nr\n", 7}, {"t 1 c\nr \n", 8}, {"t 1 c\nr 0 \n", 10}, {"t 1 c\nr 0  1\n", 10}, {"t 1 c\nr 0 1 \n", 12}, {"t 1 c\nr 0 1x\n", 11}, {"t 1 c\nr 0 1 x\n", 12}, {"t 1 c\nr 0 1 02\n", 13}, {"t 1 c\nr 0 2147483648\n", 19}, {"t 1 c\nr0\n", 7},
		{"t 1 c\nr 0 1\n\n", 12}, {"t 1 c\na 0 1\nt 2 x", 16},
	} {
		testViolation(t, c.s, 9, api.ErrSyntax, c.at)
	}
}

// P3.1: ErrSize, at the first byte of an operation too many, whatever is behind it.
func TestTooManyOps(t *testing.T) {
	for _, c := range []struct {
		s    string
		most int
		e    api.Errno
		at   int
	}{
		{"t 1 c\na 0 1\n", 0, api.ErrSize, 6}, {"t 1 c\nr 0\n", 0, api.ErrSize, 6}, {"t 1 c\na", 0, api.ErrSize, 6}, {"t 1 c\nrx", 0, api.ErrSize, 6}, {"t 1 c\nt 2 a\n", 0, api.OK, 0},
		{"t 1 c\nx", 0, api.ErrSyntax, 6}, {"t 1 c\n\n", 0, api.ErrSyntax, 6}, {"a", 0, api.ErrSyntax, 0}, {"r 0\n", 0, api.ErrSyntax, 0},
		{"t 1 c\nr 0\n", 1, api.OK, 0}, {"t 1 c\nr 0\nr 0\n", 1, api.ErrSize, 10}, {"t 1 c\nr 0\nt 2 c\nr 0\n", 1, api.ErrSize, 16}, {"t 1 c\na 0 1\na 0 1\n", 1, api.ErrSize, 12}, {"t 1 c\na 0 1\na 0 1\n", 2, api.ErrValue, 16},
		{"t 1 a\na 0 1\nr 0\nt 2 c\na", 2, api.ErrSize, 22}, {"t 1 a\na 0 1\nr 0\nt 2 c\na", 3, api.ErrSyntax, 23},
		{"t 1 c\nr 0\nt 1 c\nr 0\n", 1, api.ErrTwin, 12}, {"t 1 c\nr 0x\nr 0\n", 1, api.ErrSyntax, 9},
	} {
		testViolation(t, c.s, c.most, c.e, c.at)
	}
	s := "t 1 c\n" + lines(api.MaxOps, func(i int) string { return "a 0 " + strconv.Itoa(i) + "\n" })
	testViolation(t, s, api.MaxOps, api.OK, 0)
	testViolation(t, s+"r 0\n", api.MaxOps, api.ErrSize, len(s))
	testViolation(t, s+"t 2 c\n", api.MaxOps, api.OK, 0)
	testViolation(t, s, api.MaxOps-1, api.ErrSize, len(s)-len("a 0 4095\n"))
}

// P3.1: ErrSize, at the first byte of a transaction too many, whatever is behind it.
func TestTooManyTxns(t *testing.T) {
	s := lines(api.MaxTxns, txnLine)
	testViolation(t, s, 1, api.OK, 0)
	testViolation(t, s+"r 0\n", 1, api.OK, 0)
	testViolation(t, s+"r 0\nr 0\n", 1, api.ErrSize, len(s)+4)
	for _, more := range []string{"t", "t 1024 c\n", "t 0 c\n", "tx", "t 1024 c\nx"} {
		testViolation(t, s+more, 1, api.ErrSize, len(s))
		testViolation(t, s+"r 0\n"+more, 1, api.ErrSize, len(s)+4)
	}
	testViolation(t, s+"x", 1, api.ErrSyntax, len(s))
	testViolation(t, s[:len(s)-len("t 1023 c\n")]+"t 0 c\nt 0 c\n", 1, api.ErrTwin, len(s)-len("1023 c\n"))
}

// P3.1: ErrTwin, at the first byte of a number that an earlier transaction has, if it is a number.
func TestTwin(t *testing.T) {
	for _, c := range []struct {
		s  string
		e  api.Errno
		at int
	}{
		{"t 1 c\nt 1 c\n", api.ErrTwin, 8}, {"t 1 c\nt 1 a\n", api.ErrTwin, 8}, {"t 1 a\nt 1 a\n", api.ErrTwin, 8}, {"t 0 a\nt 0 a\n", api.ErrTwin, 8},
		{"t 1 c\nt 2 c\nt 3 c\nt 2 c\n", api.ErrTwin, 20}, {"t 1 c\nt 2 c\nt 2 c\nt 1 c\n", api.ErrTwin, 14}, {"t 1 c\na 0 1\nr 0\nt 1 c\n", api.ErrTwin, 18},
		{"t 1 c\nt 1", api.ErrTwin, 8}, {"t 1 c\nt 1x", api.ErrTwin, 8}, {"t 1 c\nt 1 x", api.ErrTwin, 8}, {"t 1 c\nt 1 cx", api.ErrTwin, 8}, {"t 1 c\nt 1\n", api.ErrTwin, 8},
		{"t 1 c\nt 10 c\n", api.OK, 0}, {"t 10 c\nt 1 c\n", api.OK, 0}, {"t 1 c\nt 11 c\nt 111 c\n", api.OK, 0}, {"t 1 c\nt 10", api.ErrSyntax, 10},
		{"t 0 c\nt 00 c\n", api.ErrSyntax, 9}, {"t 0 c\nt 01 c\n", api.ErrSyntax, 9}, {"t 0 c\nt x", api.ErrSyntax, 8}, {"t 0 c\nt ", api.ErrSyntax, 8}, {"t 0 c\nt  0 c\n", api.ErrSyntax, 8}, {"t 0 c\nt", api.ErrSyntax, 7},
		{"t 214748364 c\nt 2147483648 c\n", api.ErrSyntax, 25}, {"t 2147483647 c\nt 2147483647 c\n", api.ErrTwin, 17}, {"t 2147483647 c\nt 21474836470 c\n", api.ErrSyntax, 27},
		{"t 1 c\na 1 1\nr 1 1\nt 2 c\n", api.OK, 0}, // a key, a value, and a number in a list, are no transaction's
	} {
		testViolation(t, c.s, 9, c.e, c.at)
	}
}

// P3.1: ErrValue, at the first byte of a value that its key got already, if it is a number.
func TestValue(t *testing.T) {
	for _, c := range []struct {
		s  string
		e  api.Errno
		at int
	}{
		{"t 7 c\na 1 5\na 1 5\n", api.ErrValue, 16}, {"t 7 c\na 0 0\na 0 0\n", api.ErrValue, 16}, {"t 7 a\na 1 5\nt 8 a\na 1 5\n", api.ErrValue, 22}, {"t 7 a\na 1 5\nt 8 c\na 1 5\n", api.ErrValue, 22}, {"t 7 c\na 1 5\nt 8 a\na 1 5\n", api.ErrValue, 22},
		{"t 7 c\na 1 5\na 1 6\na 2 5\nr 1 5\na 1 6\n", api.ErrValue, 34}, {"t 7 c\na 10 5\na 10 5\n", api.ErrValue, 18},
		{"t 7 c\na 1 5\na 1 5", api.ErrValue, 16}, {"t 7 c\na 1 5\na 1 5x", api.ErrValue, 16}, {"t 7 c\na 1 5\na 1 5 6\n", api.ErrValue, 16},
		{"t 7 c\na 1 5\na 2 5\n", api.OK, 0}, {"t 7 c\na 1 5\na 5 1\n", api.OK, 0}, {"t 7 c\na 1 5\na 1 50\na 1 55\na 11 5\n", api.OK, 0}, {"t 7 c\na 1 5\na 1 7\na 7 7\n", api.OK, 0},
		{"t 7 c\na 1 23\na 12 3\n", api.OK, 0}, {"t 7 c\na 0 2147483647\na 1 2147483647\na 2147483647 0\n", api.OK, 0},
		{"t 7 c\na 1 0\na 1 00\n", api.ErrSyntax, 17}, {"t 7 c\na 1 0\na 1 \n", api.ErrSyntax, 16}, {"t 7 c\na 1 0\na 1 ", api.ErrSyntax, 16}, {"t 7 c\na 1 0\na 1\n", api.ErrSyntax, 15}, {"t 7 c\na 0 0\na x", api.ErrSyntax, 14},
		{"t 7 c\na 1 214748364\na 1 2147483648\n", api.ErrSyntax, 33}, {"t 7 c\na 1 2147483647\na 1 2147483647\n", api.ErrValue, 25},
		{"t 7 c\nr 1 5\nr 1 5 5\na 1 5\nr 1 5\n", api.OK, 0}, // what was read may be appended, and read again
	} {
		testViolation(t, c.s, 9, c.e, c.at)
	}
}

// P3.1: of several violations that at the least place is told.
func TestFirst(t *testing.T) {
	for _, c := range []struct {
		s    string
		most int
		e    api.Errno
		at   int
	}{
		{"t 1 c\nt 1 c\nx", 9, api.ErrTwin, 8}, {"t 1 c\nx\nt 1 c\n", 9, api.ErrSyntax, 6}, {"t 1 c\na 0 1\na 0 1\nt 1 c\n", 9, api.ErrValue, 16}, {"t 1 c\na 0 1\nt 1 c\na 0 1\n", 9, api.ErrTwin, 14},
		{"t 1 c\na 0 1\nt 1 c\na 0 1\n", 0, api.ErrSize, 6}, {"t 1 c\na 0 1\nt 1 c\na 0 1\n", 1, api.ErrTwin, 14}, {"t 1 c\na 0 1\nr 0 \na 0 1\n", 9, api.ErrSyntax, 16},
	} {
		testViolation(t, c.s, c.most, c.e, c.at)
	}
}

// whole is how a history's lines look, but for how great numbers are.
var whole = regexp.MustCompile(`^(t N [ac]\n(a N N\n|r N( N)*\n)*)*$`)

var digitRow = regexp.MustCompile(`[0-9]+`)

// isNumber asks whether a row of digits is a number's text, by the words of chapter 1.
func isNumber(s string) bool {
	n, err := strconv.ParseUint(s, 10, 64)
	return err == nil && n <= 2147483647 && (s == "0" || s[0] != '0')
}

// isWhole asks whether lines have a history's form.
func isWhole(s string) bool {
	if strings.Contains(s, "N") {
		return false
	}
	return whole.MatchString(digitRow.ReplaceAllStringFunc(s, func(d string) string {
		if isNumber(d) {
			return "N"
		}
		return d
	}))
}

// isBeginning asks whether some bytes behind s make it whole.
func isBeginning(s string) bool {
	for _, rest := range []string{"", "\n", " c\n", "c\n", " 0 c\n", "0 c\n", " 0\n", "0\n", " 0 0\n", "0 0\n"} {
		if isWhole(s + rest) {
			return true
		}
	}
	return false
}

// violation is one, and its place.
type violation struct {
	e  api.Errno
	at int
}

// wrongForm is the violation of a text's form, if there is one.
func wrongForm(s string) (violation, bool) {
	for i := range len(s) {
		if !isBeginning(s[:i+1]) {
			return violation{api.ErrSyntax, i}, true
		}
	}
	return violation{api.ErrSyntax, len(s)}, !isWhole(s)
}

// numberAt is the row of digits that stands behind so many blanks of a line, and its place in it; it is empty if there are not so many.
func numberAt(line string, blanks int) (string, int) {
	at := 0
	for range blanks {
		i := strings.IndexByte(line[at:], ' ')
		if i < 0 {
			return "", 0
		}
		at += i + 1
	}
	d := digitRow.FindString(line[at:])
	if !strings.HasPrefix(line[at:], d) || d == "" || !isNumber(d) {
		return "", 0
	}
	return d, at
}

// violations are all of a text, by the chapter's words, those named first ahead; behind the first one that is told there may be some that are none.
func violations(s string, most int) []violation {
	var all []violation
	if v, is := wrongForm(s); is {
		all = append(all, v)
	}
	ops, txns, from := 0, 0, 0
	met := map[string]bool{}
	for line := range strings.SplitAfterSeq(s, "\n") {
		d, at := numberAt(line, 1)
		switch {
		case strings.HasPrefix(line, "t"):
			if txns++; txns > api.MaxTxns {
				all = append(all, violation{api.ErrSize, from})
			}
			if met[d] && d != "" {
				all = append(all, violation{api.ErrTwin, from + at})
			}
			met[d] = true
		case strings.HasPrefix(line, "a"), strings.HasPrefix(line, "r"):
			if ops++; ops > most {
				all = append(all, violation{api.ErrSize, from})
			}
			v, at := numberAt(line, 2)
			if line[0] == 'a' && d != "" && v != "" {
				if met[d+" "+v] {
					all = append(all, violation{api.ErrValue, from + at})
				}
				met[d+" "+v] = true
			}
		}
		from += len(line)
	}
	return all
}

// first is the violation at the least place; at one place the one ahead.
func first(all []violation) violation {
	if len(all) == 0 {
		return violation{}
	}
	return slices.MinFunc(all, func(a, b violation) int { return a.at - b.at })
}

func testModel(t *testing.T, s string, most int) {
	t.Helper()
	v := first(violations(s, most))
	testViolation(t, s, most, v.e, v.at)
	if t.Failed() {
		t.FailNow()
	}
	if h, e, _ := history.Decode([]byte(s), most); e == api.OK && text(h) != s {
		t.Fatalf("%q comes back as %q", s, text(h))
	}
}

// text is a history as lines.
func text(h api.History) string {
	var s strings.Builder
	for _, x := range h.Txns {
		s.WriteString("t " + strconv.Itoa(x.ID))
		if x.Aborted {
			s.WriteString(" a\n")
		} else {
			s.WriteString(" c\n")
		}
		for _, o := range x.Ops {
			if o.Read {
				s.WriteString("r " + strconv.Itoa(o.Key))
				for _, v := range o.List {
					s.WriteString(" " + strconv.Itoa(v))
				}
			} else {
				s.WriteString("a " + strconv.Itoa(o.Key) + " " + strconv.Itoa(o.Value))
			}
			s.WriteString("\n")
		}
	}
	return s.String()
}

// eachRow goes through all rows of some words, up to a length.
func eachRow(words []string, most int, do func(s string)) {
	var grow func(s string, n int)
	grow = func(s string, n int) {
		do(s)
		if n < most {
			for _, x := range words {
				grow(s+x, n+1)
			}
		}
	}
	grow("", 0)
}

// P3.1: all short rows of lines, as the chapter's words have them, and all that are cut off, or have one byte changed.
func TestAllShort(t *testing.T) {
	words := []string{"t 0 c\n", "t 10 a\n", "a 0 1\n", "a 1 10\n", "r 0\n", "r 0 10 1\n"}
	eachRow(words, 3, func(s string) {
		for most := range 4 {
			for cut := range len(s) + 1 {
				testModel(t, s[:cut], most)
			}
		}
		for i := range len(s) {
			for _, x := range []byte("tarc 01\n-") {
				testModel(t, s[:i]+string(x)+s[i+1:], 2)
			}
		}
	})
	words = []string{"t 0 c\n", "t 1 a\n", "a 0 0\n", "a 0 1\n", "a 1 0\n", "r 1 0\n"}
	eachRow(words, 5, func(s string) {
		testModel(t, s, 3)
	})
}

// P3.1: all short rows of pieces of lines.
func TestAllPieces(t *testing.T) {
	eachRow([]string{"t", "a", "r", "c", " ", "0", "1", "\n"}, 5, func(s string) {
		testModel(t, s, 1)
		testModel(t, "t 1 c\n"+s, 0)
		testModel(t, "t 1 c\na 1 0\n"+s, 9)
	})
	eachRow([]string{" ", "0", "1", "\n"}, 6, func(s string) {
		for _, x := range []string{"t", "t 0 c\nt 1", "t 0 c\na", "t 0 c\nr", "t 0 c\na 0 1\na 0"} {
			testModel(t, x+s, 9)
		}
	})
}

// R1, P3.1: bytes of all kinds, as the chapter's words have them.
func TestAnyBytes(t *testing.T) {
	random := rand.New(rand.NewPCG(3, 1))
	for range 3000 {
		s := lines(random.IntN(8), func(int) string {
			n := func() string { return strconv.Itoa(random.IntN(3)) }
			switch random.IntN(4) {
			case 0:
				return "t " + strconv.Itoa(random.IntN(9)) + " c\n"
			case 1:
				return "a " + n() + " " + n() + "\n"
			case 2:
				return "r " + n() + strings.Repeat(" "+n(), random.IntN(4)) + "\n"
			default:
				return "t " + strconv.Itoa(random.IntN(9)) + " a\n"
			}
		})
		testModel(t, s, 5)
		b := []byte(s)
		for i := range b {
			if random.IntN(20) == 0 {
				b[i] = byte(random.IntN(256))
			}
		}
		testModel(t, string(b), 5)
	}
}

// P3.2: how many operations there are, aborted ones' too.
func TestOps(t *testing.T) {
	for _, c := range []struct {
		h api.History
		n int
	}{
		{api.History{}, 0}, {api.History{Txns: []api.Txn{}}, 0}, {api.History{Txns: []api.Txn{{}, {ID: 1, Ops: []api.Op{}}}}, 0},
		{api.History{Txns: []api.Txn{{Ops: []api.Op{{}}}}}, 1},
		{api.History{Txns: []api.Txn{{Ops: []api.Op{{}, {}, {Read: true}}}, {}, {Aborted: true, Ops: []api.Op{{Key: -1}, {Value: -1}}}}}, 5},
		{api.History{Txns: []api.Txn{{ID: 1, Ops: make([]api.Op, 4097)}, {ID: 1, Ops: make([]api.Op, 3)}}}, 4100},
	} {
		if n := history.Ops(c.h); n != c.n {
			t.Errorf("of %v: %d, not %d", c.h, n, c.n)
		}
	}
}

// sample is a history anew, with something of each kind.
func sample() api.History {
	return api.History{Txns: []api.Txn{
		{ID: 1, Ops: []api.Op{{Key: 1, Value: 2}, {Read: true, Key: 1, List: []int{2, 3}}}},
		{ID: 2, Aborted: true, Ops: []api.Op{{Read: true, Key: 5}}},
		{ID: 3},
	}}
}

// P3.2: what differs in anything is not alike.
func TestSame(t *testing.T) {
	if !history.Same(sample(), sample()) {
		t.Error("a history is not alike with itself")
	}
	for i, change := range []func(h *api.History){
		func(h *api.History) { h.Txns = nil },
		func(h *api.History) { h.Txns = h.Txns[:2] },
		func(h *api.History) { h.Txns = h.Txns[1:] },
		func(h *api.History) { h.Txns = append(h.Txns, api.Txn{}) },
		func(h *api.History) { h.Txns = append(h.Txns, h.Txns[2]) },
		func(h *api.History) { h.Txns[0], h.Txns[1] = h.Txns[1], h.Txns[0] },
		func(h *api.History) { h.Txns[0].ID = 4 },
		func(h *api.History) { h.Txns[2].ID = 0 },
		func(h *api.History) { h.Txns[0].Aborted = true },
		func(h *api.History) { h.Txns[1].Aborted = false },
		func(h *api.History) { h.Txns[0].Ops = nil },
		func(h *api.History) { h.Txns[0].Ops = h.Txns[0].Ops[:1] },
		func(h *api.History) { h.Txns[0].Ops = h.Txns[0].Ops[1:] },
		func(h *api.History) { h.Txns[2].Ops = []api.Op{{}} },
		func(h *api.History) { o := h.Txns[0].Ops; o[0], o[1] = o[1], o[0] },
		func(h *api.History) { h.Txns[2].Ops, h.Txns[1].Ops = h.Txns[1].Ops, nil },
		func(h *api.History) { h.Txns[0].Ops[0].Read = true },
		func(h *api.History) { h.Txns[1].Ops[0].Read = false },
		func(h *api.History) { h.Txns[0].Ops[0].Key = 2 },
		func(h *api.History) { h.Txns[0].Ops[1].Key = 2 },
		func(h *api.History) { h.Txns[0].Ops[0].Value = 1 },
		func(h *api.History) { h.Txns[0].Ops[1].Value = 1 },
		func(h *api.History) { h.Txns[0].Ops[0].List = []int{0} },
		func(h *api.History) { h.Txns[0].Ops[1].List = nil },
		func(h *api.History) { h.Txns[0].Ops[1].List = []int{2} },
		func(h *api.History) { h.Txns[0].Ops[1].List = []int{3, 2} },
		func(h *api.History) { h.Txns[0].Ops[1].List = []int{2, 3, 0} },
		func(h *api.History) { h.Txns[1].Ops[0].List = []int{5} },
	} {
		h := sample()
		change(&h)
		if history.Same(h, sample()) || history.Same(sample(), h) {
			t.Errorf("change %d makes it no other one", i)
		}
		if !history.Same(h, h) {
			t.Errorf("changed by %d it is not alike with itself", i)
		}
	}
}

// P3.2, R3: no list is alike with an empty one, at each place where a list may be.
func TestSameOfNoLists(t *testing.T) {
	full, none := sample(), sample()
	full.Txns[1].Ops[0].List = []int{}
	full.Txns[0].Ops[0].List = make([]int, 0, 3)
	full.Txns[2].Ops = []api.Op{}
	if !history.Same(full, none) || !history.Same(none, full) {
		t.Error("no list is not alike with an empty one")
	}
	for _, a := range []api.History{{}, {Txns: []api.Txn{}}} {
		for _, b := range []api.History{{}, {Txns: []api.Txn{}}} {
			if !history.Same(a, b) {
				t.Error("no transactions are not alike with none")
			}
		}
	}
}

// P3.3: without the lines at the end there is no violation still; a cut within a line is one, at the end.
func TestCutOff(t *testing.T) {
	const s = "t 7 c\na 1 5\nr 1 5\nt 10 a\nr 2\nr 1 5 70\na 2 5\nt 0 c\n"
	for cut := range len(s) + 1 {
		if cut == 0 || s[cut-1] == '\n' {
			testViolation(t, s[:cut], 5, api.OK, 0)
		} else {
			testViolation(t, s[:cut], 5, api.ErrSyntax, cut)
		}
	}
}

// P3.3: what is behind a wrong byte decides nothing.
func TestBehind(t *testing.T) {
	for _, c := range []struct {
		s    string
		most int
		e    api.Errno
		at   int
	}{
		{"x", 9, api.ErrSyntax, 0}, {"t 1 b", 9, api.ErrSyntax, 4}, {"t 1 c\na 1 00", 9, api.ErrSyntax, 11}, {"t 1 c\nt 1 ", 9, api.ErrTwin, 8}, {"t 1 c\na 0 1\na 0 1\n", 9, api.ErrValue, 16}, {"t 1 c\nr", 0, api.ErrSize, 6}, {"t 1 c\nr 2147483648", 9, api.ErrSyntax, 17},
	} {
		for _, behind := range []string{"", "0", " ", "\n", "\nt 2 c\n", " c\nt 1 c\n", "x", "\x00\xff", "\na 0 1\na 0 1\n"} {
			testViolation(t, c.s+behind, c.most, c.e, c.at)
		}
	}
}

// R3: what is handed in stays as it is, its spare room too, and what is answered shares nothing.
func TestShareNothing(t *testing.T) {
	const s = "t 7 c\na 1 5\nr 1 5 6\nr 1 5 6\nt 8 a\nr 2 5 6 7\nt 9 c\nr 0\n"
	room := []byte(s + "t 7 c\nx")
	was := bytes.Clone(room)
	h, e, _ := history.Decode(room[:len(s)], 9)
	again, _, _ := history.Decode(room[:len(s)], 9)
	if e != api.OK || !history.Same(h, again) || !bytes.Equal(room, was) {
		t.Fatal(h, again, e, room)
	}
	for i := range room {
		room[i] = 'x'
	}
	lists := 0
	for _, x := range h.Txns {
		for _, o := range x.Ops {
			lists += len(o.List)
			for i := range o.List[:cap(o.List)] {
				o.List[:cap(o.List)][i] = -len(o.List) - i
			}
		}
	}
	for _, x := range h.Txns { // each list has what was written into it, and nothing of another one's
		for _, o := range x.Ops {
			for i, v := range o.List {
				if v != -len(o.List)-i {
					t.Errorf("lists share: %v", o.List)
				}
			}
		}
	}
	for i := range h.Txns {
		ops := h.Txns[i].Ops
		for j := range ops[:cap(ops)] {
			ops[:cap(ops)][j] = api.Op{Key: i, Value: j, List: []int{i, j}}
		}
	}
	for i := range h.Txns {
		for j, o := range h.Txns[i].Ops {
			if o.Key != i || o.Value != j || !slices.Equal(o.List, []int{i, j}) {
				t.Errorf("operations share: %v", o)
			}
		}
	}
	if lists != 7 || text(again) != s {
		t.Errorf("one history changed with another one: %v", again)
	}
}

// R3, R4: Ops and Same change nothing, and what Decode answered hangs on no call ahead.
func TestChangesNothing(t *testing.T) {
	a, b := sample(), sample()
	a.Txns[1].Ops[0].List = make([]int, 0, 2)
	history.Ops(a)
	history.Same(a, b)
	if text(a) != text(sample()) || text(b) != text(sample()) {
		t.Errorf("changed: %v, %v", a, b)
	}
	for range 2 {
		testViolation(t, "t 1 c\na 0 1\n", 1, api.OK, 0)
		testViolation(t, "t 1 c\na 0 1\nt 1 c\n", 1, api.ErrTwin, 14)
		testViolation(t, "t 1 c\na 0 1\na 0 1\n", 2, api.ErrValue, 16)
	}
}
