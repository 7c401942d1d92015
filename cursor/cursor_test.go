package cursor_test

import (
	"bytes"
	"math"
	"slices"
	"strconv"
	"strings"
	"testing"

	"coroner/api"
	"coroner/cursor"
)

// testAt holds a cursor's place, and its error with its place, against what they should be.
func testAt(t *testing.T, c *cursor.Cursor, at int, e api.Errno, errAt int) {
	t.Helper()
	if got := c.At(); got != at {
		t.Errorf("At is %d, not %d", got, at)
	}
	if ge, gat := c.Err(); ge != e || gat != errAt {
		t.Errorf("Err is %d, %d, not %d, %d", int(ge), gat, int(e), errAt)
	}
}

func testPeek(t *testing.T, c *cursor.Cursor, x byte, is bool) {
	t.Helper()
	if gx, gis := c.Peek(); gx != x || gis != is {
		t.Errorf("Peek is %q, %t, not %q, %t", gx, gis, x, is)
	}
}

func testNumber(t *testing.T, c *cursor.Cursor, n int) {
	t.Helper()
	if got := c.Number(); got != n {
		t.Errorf("Number is %d, not %d", got, n)
	}
}

func testList(t *testing.T, c *cursor.Cursor, l ...int) {
	t.Helper()
	if got := c.List(); !slices.Equal(got, l) {
		t.Errorf("List is %v, not %v", got, l)
	}
}

// at is a cursor that went over the first bytes of a text.
func at(s string, from int) *cursor.Cursor {
	c := cursor.New([]byte(s))
	for i := range from {
		c.Byte(s[i])
	}
	return c
}

// P2.1: a new one is at the place 0, without an error, of whatever bytes; Peek goes nowhere.
func TestNew(t *testing.T) {
	for _, s := range []string{"x", "0", "\n", "\x00", "\xff ", "t 7 c\na 1 5\n"} {
		c := cursor.New([]byte(s))
		for range 3 {
			testPeek(t, c, s[0], true)
			testAt(t, c, 0, api.OK, 0)
		}
	}
	for _, b := range [][]byte{nil, {}, make([]byte, 0, 9)} {
		c := cursor.New(b)
		for range 3 {
			testPeek(t, c, 0, false)
			testAt(t, c, 0, api.OK, 0)
		}
	}
}

// P2.1: a byte that stands there is gone over, and another one is an error at its place.
func TestByte(t *testing.T) {
	for x := range 256 {
		for y := range 256 {
			c := cursor.New([]byte{'-', byte(x), '+'})
			c.Byte('-')
			testPeek(t, c, byte(x), true)
			c.Byte(byte(y))
			if x == y {
				testAt(t, c, 2, api.OK, 0)
				testPeek(t, c, '+', true)
			} else {
				testAt(t, c, 1, api.ErrSyntax, 1)
				testPeek(t, c, 0, false)
			}
		}
	}
}

// P2.1: at the end no byte stands, 0 neither.
func TestByteAtEnd(t *testing.T) {
	for _, s := range []string{"", "a", "a\x00", "\x00\x00\x00"} {
		for _, x := range []byte{0, 'a', ' ', '\n', 255} {
			c := at(s, len(s))
			testPeek(t, c, 0, false)
			testAt(t, c, len(s), api.OK, 0)
			c.Byte(x)
			testAt(t, c, len(s), api.ErrSyntax, len(s))
		}
	}
	spare := []byte("abc")
	c := cursor.New(spare[:1]) // what lies in the spare room is behind the end
	c.Byte('a')
	testPeek(t, c, 0, false)
	c.Byte('b')
	testAt(t, c, 1, api.ErrSyntax, 1)
}

// P2.2: a number is gone over.
func TestNumber(t *testing.T) {
	for _, c := range []struct {
		s           string
		from, n, to int
	}{
		{"0", 0, 0, 1}, {"7", 0, 7, 1}, {"10\n", 0, 10, 2}, {"0 1", 0, 0, 1}, {"0x", 0, 0, 1},
		{"t 70 c", 2, 70, 4}, {"t 70 c", 3, 0, 4}, {"123456", 3, 456, 6},
		{"2147483647", 0, 2147483647, 10}, {"a2147483647b", 1, 2147483647, 11},
	} {
		o := at(c.s, c.from)
		testNumber(t, o, c.n)
		testAt(t, o, c.to, api.OK, 0)
	}
}

// P2.2: where no number stands there is an error at the first wrong place, and the cursor is where it was.
func TestNumberWrong(t *testing.T) {
	for _, c := range []struct {
		s           string
		from, wrong int
	}{
		{"", 0, 0}, {"x", 0, 0}, {" 1", 0, 0}, {"-1", 0, 0}, {"7", 1, 1}, {"t 7 c", 3, 3}, {"t 7", 1, 1},
		{"00", 0, 1}, {"007", 0, 1}, {"t 01", 2, 3}, {"102", 1, 2},
		{"2147483648", 0, 9}, {"9999999999", 0, 9}, {"10000000000", 0, 10}, {"t 2147483648 c", 2, 11},
		{strings.Repeat("9", 50), 0, 9}, {strings.Repeat("0", 50), 0, 1},
	} {
		o := at(c.s, c.from)
		testNumber(t, o, 0)
		testAt(t, o, c.from, api.ErrSyntax, c.wrong)
	}
}

// P2.2: numbers with blanks ahead are gone over, as many as there are, be there none.
func TestList(t *testing.T) {
	for _, c := range []struct {
		s    string
		from int
		l    []int
		to   int
	}{
		{"", 0, nil, 0}, {"x", 0, nil, 0}, {"5", 0, nil, 0}, {"5", 1, nil, 1}, {"\n 5", 0, nil, 0},
		{" 5", 0, []int{5}, 2}, {" 5 70", 0, []int{5, 70}, 5}, {" 5 70\n 1", 0, []int{5, 70}, 5}, {" 5x 70", 0, []int{5}, 2},
		{"r 0 1 2\n", 1, []int{0, 1, 2}, 7}, {"r 0 1 2\n", 3, []int{1, 2}, 7}, {"r 0 1 2\n", 7, nil, 7}, {"r 0 1 2\n", 8, nil, 8},
		{" 2147483647 0 0", 0, []int{2147483647, 0, 0}, 15},
	} {
		o := at(c.s, c.from)
		testList(t, o, c.l...)
		testAt(t, o, c.to, api.OK, 0)
		testList(t, o) // behind them there are none
		testAt(t, o, c.to, api.OK, 0)
	}
}

// P2.2: a blank without a number behind it is an error at the first wrong place, and of the numbers ahead of it nothing is told.
func TestListWrong(t *testing.T) {
	for _, c := range []struct {
		s           string
		from, wrong int
	}{
		{" ", 0, 1}, {"  1", 0, 1}, {" x", 0, 1}, {" 1 ", 0, 3}, {" 1 2  3", 0, 5}, {" 1 02", 0, 4}, {" 1 2 -3", 0, 5},
		{" 1 2147483648", 0, 12}, {"r 1 2 \n", 1, 6}, {"r 1 2 \n", 5, 6}, {"r 00 1", 1, 3},
	} {
		o := at(c.s, c.from)
		testList(t, o)
		testAt(t, o, c.from, api.ErrSyntax, c.wrong)
	}
}

// P2.3: whatever Fail is told is the error, with whatever place; the cursor is where it was.
func TestFail(t *testing.T) {
	for _, e := range []api.Errno{api.ErrNil, api.ErrArg, api.ErrSize, api.ErrSyntax, api.ErrTwin, api.ErrValue, api.ErrSay, 99, -1, math.MaxInt, math.MinInt} {
		for _, place := range []int{0, 1, 2, 3, 4, -1, -7, math.MaxInt, math.MinInt} {
			c := at("abc", 2)
			c.Fail(e, place)
			testAt(t, c, 2, e, place)
			testPeek(t, c, 0, false)
		}
	}
}

// P2.3: OK is no error, ahead of one and behind it.
func TestFailOK(t *testing.T) {
	c := at("ab7", 1)
	for _, place := range []int{0, 1, -1, 7} {
		c.Fail(api.OK, place)
		testAt(t, c, 1, api.OK, 0)
		testPeek(t, c, 'b', true)
	}
	c.Byte('b')
	testNumber(t, c, 7)
	testAt(t, c, 3, api.OK, 0)
	c.Fail(api.ErrTwin, 5)
	c.Fail(api.OK, 0)
	testAt(t, c, 3, api.ErrTwin, 5)
}

// P2.1, P2.2, P2.3: once there is an error nothing changes any more, wherever the error is from.
func TestErrorStays(t *testing.T) {
	const s = "x7 8"
	for _, c := range []struct {
		fail  func(c *cursor.Cursor)
		from  int
		e     api.Errno
		errAt int
	}{
		{func(c *cursor.Cursor) { c.Fail(api.ErrTwin, 9) }, 1, api.ErrTwin, 9},
		{func(c *cursor.Cursor) { c.Fail(api.ErrNil, 0) }, 2, api.ErrNil, 0},
		{func(c *cursor.Cursor) { c.Byte('y') }, 0, api.ErrSyntax, 0},
		{func(c *cursor.Cursor) { c.Byte('x') }, 2, api.ErrSyntax, 2},
		{func(c *cursor.Cursor) { c.Byte('8') }, 4, api.ErrSyntax, 4},
		{func(c *cursor.Cursor) { c.Number() }, 2, api.ErrSyntax, 2},
	} {
		o := at(s, c.from)
		c.fail(o)
		for range 2 {
			testAt(t, o, c.from, c.e, c.errAt)
			testPeek(t, o, 0, false)
			testNumber(t, o, 0)
			testList(t, o)
			for _, x := range []byte("x7 8\x00") {
				o.Byte(x)
			}
			o.Fail(api.ErrValue, 1)
			o.Fail(api.ErrSyntax, 0)
			testAt(t, o, c.from, c.e, c.errAt)
		}
	}
	o := cursor.New([]byte(" 1 x"))
	testList(t, o)
	o.Byte(' ')
	testNumber(t, o, 0)
	testAt(t, o, 0, api.ErrSyntax, 3)
}

// P2.4: a nil one, and one that no call made, tell ErrNil, and do nothing else.
func TestNone(t *testing.T) {
	var zero cursor.Cursor
	copied := zero
	for _, c := range []*cursor.Cursor{nil, &zero, new(cursor.Cursor), {}, &copied} {
		for range 2 {
			testAt(t, c, 0, api.ErrNil, 0)
			testPeek(t, c, 0, false)
			testNumber(t, c, 0)
			if l := c.List(); len(l) != 0 {
				t.Errorf("List is %v", l)
			}
			c.Byte(0)
			c.Byte('x')
			testAt(t, c, 0, api.ErrNil, 0)
			c.Fail(api.OK, 4)
			c.Fail(api.ErrTwin, 4)
			testAt(t, c, 0, api.ErrNil, 0)
		}
	}
	testAt(t, cursor.New(nil), 0, api.OK, 0) // of no bytes, but made
}

// P2.5: lines that were read come back from what was told, and the cursor is at their end.
func TestLines(t *testing.T) {
	const s = "t 7 c\na 1 5\nr 1 5\nr 0\nr 1 5 2147483647 0\n"
	c := cursor.New([]byte(s))
	var back []byte
	for {
		x, is := c.Peek()
		if !is {
			break
		}
		c.Byte(x)
		c.Byte(' ')
		back = strconv.AppendInt(append(back, x, ' '), int64(c.Number()), 10)
		if x == 't' {
			c.Byte(' ')
			c.Byte('c')
			back = append(back, " c"...)
		}
		for _, n := range c.List() {
			back = strconv.AppendInt(append(back, ' '), int64(n), 10)
		}
		c.Byte('\n')
		back = append(back, '\n')
		if s[:c.At()] != string(back) {
			t.Fatalf("what was gone over is %q, what was read %q", s[:c.At()], back)
		}
	}
	testAt(t, c, len(s), api.OK, 0)
}

// isText asks whether s is a number's text, by the words of chapter 1.
func isText(s string) bool {
	if s == "" || strings.Trim(s, "0123456789") != "" || len(s) > 1 && s[0] == '0' {
		return false
	}
	n, err := strconv.ParseUint(s, 10, 64)
	return err == nil && n <= 2147483647
}

// model is a cursor by the chapter's words alone: the rest of a text, and what was cut off ahead of it.
type model struct {
	over, rest string
	e          api.Errno
	errAt      int
}

// number is the number's text that s begins with, or how much of it is one, and false.
func number(s string) (string, bool) {
	end := len(s) - len(strings.TrimLeft(s, "0123456789"))
	for cut := end; cut > 0; cut-- {
		if isText(s[:cut]) {
			return s[:cut], cut == end
		}
	}
	return "", false
}

// take cuts off n bytes that were read; or there is an error, n bytes on.
func (m *model) take(n int, is bool) {
	if !is {
		m.e, m.errAt = api.ErrSyntax, len(m.over)+n
		return
	}
	m.over, m.rest = m.over+m.rest[:n], m.rest[n:]
}

func (m *model) oneNumber() int {
	if m.e != api.OK {
		return 0
	}
	s, is := number(m.rest)
	m.take(len(s), is)
	if !is {
		return 0
	}
	n, _ := strconv.Atoi(s)
	return n
}

func (m *model) numbers() []int {
	if m.e != api.OK {
		return nil
	}
	var l []int
	n := 0
	for strings.HasPrefix(m.rest[n:], " ") {
		s, is := number(m.rest[n+1:])
		n += 1 + len(s)
		if !is {
			m.take(n, false)
			return nil
		}
		k, _ := strconv.Atoi(s)
		l = append(l, k)
	}
	m.take(n, true)
	return l
}

// do makes one call, told by a letter, of a cursor and of its model, and holds what both tell against each other.
func do(t *testing.T, c *cursor.Cursor, m *model, call byte) {
	t.Helper()
	switch call {
	case 'n':
		testNumber(t, c, m.oneNumber())
	case 'l':
		testList(t, c, m.numbers()...)
	case 'o':
		c.Fail(api.OK, 3)
	case 'f':
		c.Fail(api.ErrTwin, -3)
		if m.e == api.OK {
			m.e, m.errAt = api.ErrTwin, -3
		}
	case 'p': // the byte that is there, if there is one
		x, is := c.Peek()
		if is != (m.e == api.OK && m.rest != "") {
			t.Errorf("Peek answers %t", is)
		}
		if is {
			c.Byte(x)
			m.take(1, true)
		}
	default:
		c.Byte(call)
		if m.e == api.OK && strings.HasPrefix(m.rest, string(call)) {
			m.take(1, true)
		} else if m.e == api.OK {
			m.take(0, false)
		}
	}
	testAt(t, c, len(m.over), m.e, m.errAt)
	if m.e == api.OK && m.rest != "" {
		testPeek(t, c, m.rest[0], true)
	} else {
		testPeek(t, c, 0, false)
	}
}

// eachText goes through all texts of some letters, up to a length.
func eachText(letters string, most int, do func(s string)) {
	var grow func(s string)
	grow = func(s string) {
		do(s)
		if len(s) < most {
			for _, x := range letters {
				grow(s + string(x))
			}
		}
	}
	grow("")
}

// P2.1 to P2.3, P2.5: all short rows of calls, over all short texts, as the chapter's words have them.
func TestAllShort(t *testing.T) {
	eachText("07 x", 4, func(s string) {
		eachText("nlpofx ", 3, func(calls string) {
			c, m := cursor.New([]byte(s)), &model{rest: s}
			for _, call := range []byte(calls) {
				do(t, c, m, call)
			}
			if t.Failed() {
				t.Fatalf("text %q, calls %q", s, calls)
			}
		})
	})
}

// P2.2: the same near the greatest number.
func TestAllNearGreatest(t *testing.T) {
	eachText("0478 ", 5, func(s string) {
		for _, s := range []string{"21474836" + s, " 1 214748" + s} {
			for _, calls := range []string{"nlpn", "lnpl"} {
				c, m := cursor.New([]byte(s)), &model{rest: s}
				for _, call := range []byte(calls) {
					do(t, c, m, call)
				}
				if t.Failed() {
					t.Fatalf("text %q, calls %q", s, calls)
				}
			}
		}
	})
}

// R3: bytes that are handed in are left as they are, their spare room too, and what List answers is nobody else's.
func TestShareNothing(t *testing.T) {
	whole := []byte("7 3 45 678 x9 9")
	was := bytes.Clone(whole)
	b := whole[:10]
	c, d := cursor.New(b), cursor.New(b)
	testNumber(t, c, 7)
	first := c.List()
	if !slices.Equal(first, []int{3, 45, 678}) {
		t.Fatal(first)
	}
	for i := range first[:cap(first)] {
		first[:cap(first)][i] = -1
	}
	c.Byte('x')
	c.Fail(api.ErrTwin, 1)
	testAt(t, c, 10, api.ErrSyntax, 10)
	if !bytes.Equal(whole, was) {
		t.Errorf("the bytes became %q", whole)
	}
	testAt(t, d, 0, api.OK, 0)
	testNumber(t, d, 7)
	testList(t, d, 3, 45, 678)
	testAt(t, d, 10, api.OK, 0)
}

// R4: two cursors have nothing in common, over the same bytes neither.
func TestApart(t *testing.T) {
	b := []byte("1 2 3")
	c := cursor.New(b)
	testNumber(t, c, 1)
	d := cursor.New(b)
	d.Fail(api.ErrValue, 4)
	testList(t, c, 2, 3)
	testAt(t, c, 5, api.OK, 0)
	testAt(t, d, 0, api.ErrValue, 4)
	testAt(t, nil, 0, api.ErrNil, 0)
}

// P2.1, P2.2, P2.5: all of a long text is gone over, at once and byte by byte.
func TestLong(t *testing.T) {
	var b []byte
	var want []int
	for n := range 20000 {
		want = append(want, n*n)
		b = strconv.AppendInt(append(b, ' '), int64(n*n), 10)
	}
	c := cursor.New(b)
	testList(t, c, want...)
	testAt(t, c, len(b), api.OK, 0)
	c = cursor.New(b)
	for _, x := range b {
		testPeek(t, c, x, true)
		c.Byte(x)
	}
	testAt(t, c, len(b), api.OK, 0)
}
