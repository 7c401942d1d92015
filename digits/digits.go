// Package digits is layer 1, numbers as bytes: see shared/doc/01-digits.md.
package digits

import "coroner/api"

// mostWidth is how many digits api.MaxNumber has.
const mostWidth = 10

// Parse is the number that stands from a place on, and the place behind it; or the first wrong place, and false.
func Parse(b []byte, at int) (int, int, bool) {
	if at < 0 || at > len(b) {
		return 0, 0, false
	}
	n, to := 0, at
	for to < len(b) {
		d, is := digit(b[to])
		if !is {
			break
		}
		// Behind a first digit n is 0 only if that digit was 0. The bound is held against the quotient, so that no sum is ever too great for an int.
		if to > at && n == 0 || n > (api.MaxNumber-d)/10 {
			return 0, to, false
		}
		n = 10*n + d
		to++
	}
	if to == at {
		return 0, at, false
	}
	return n, to, true
}

// digit is what a byte stands for, if it is a digit.
func digit(x byte) (int, bool) {
	r := rune(x)
	if r < '0' || r > '9' {
		return 0, false
	}
	return int(r - '0'), true
}

// Print is a number's text.
func Print(n int) (string, api.Errno) {
	width := Width(n)
	if width == 0 {
		return "", api.ErrArg
	}
	var text [mostWidth]byte
	for i := width - 1; i >= 0; i-- {
		text[i] = byte('0' + n%10)
		n /= 10
	}
	return string(text[:width]), api.OK
}

// Width is how many bytes a number's text has; 0, if it has none.
func Width(n int) int {
	if n < 0 || n > api.MaxNumber {
		return 0
	}
	width := 1
	for n > 9 {
		n /= 10
		width++
	}
	return width
}

// List are the numbers that stand from a place on, with a blank ahead of each, and the place behind the last one; or the first wrong place, and false.
func List(b []byte, at int) ([]int, int, bool) {
	if at < 0 || at > len(b) {
		return nil, 0, false
	}
	var l []int
	for at < len(b) && b[at] == ' ' {
		n, to, is := Parse(b, at+1)
		if !is {
			return nil, to, false
		}
		l = append(l, n)
		at = to
	}
	return l, at, true
}
