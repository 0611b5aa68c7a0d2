// Package place is layer 1: where something stands in a text.
package place

import (
	"strconv"

	"gramarye/api"
)

// Of tells the line and the column of the place at.
func Of(s string, at int) (int, int, api.Errno) {
	if at < 0 || at > len(s) {
		return 0, 0, api.ErrArg
	}
	last := feedAhead(s, at)
	line := 1
	for f := last; f >= 0; f = feedAhead(s, f) {
		line++
	}
	return line, at - last, api.OK
}

// At tells the place that has this line and this column.
func At(s string, line, column int) (int, api.Errno) {
	if line < 1 || column < 1 {
		return 0, api.ErrNone
	}
	start := 0
	for ; line > 1; line-- {
		f := feedFrom(s, start)
		if f == len(s) {
			return 0, api.ErrNone
		}
		start = f + 1
	}
	// The place of the line feed itself still belongs to its line.
	if column-1 > feedFrom(s, start)-start {
		return 0, api.ErrNone
	}
	return start + column - 1, api.OK
}

// Lines tells how many lines there are.
func Lines(s string) int {
	n := 1
	for f := feedAhead(s, len(s)); f >= 0; f = feedAhead(s, f) {
		n++
	}
	return n
}

// Fault tells an error with its place, or, if there is no such place, alone.
func Fault(s string, at int, e api.Errno) string {
	line, column, bad := Of(s, at)
	if bad != api.OK {
		return e.Error()
	}
	return strconv.Itoa(line) + ":" + strconv.Itoa(column) + ": " + e.Error()
}

// feedAhead is the place of the last line feed ahead of at; -1, if there is none.
func feedAhead(s string, at int) int {
back:
	at--
	if at >= 0 && s[at] != '\n' {
		goto back
	}
	return at
}

// feedFrom is the place of the first line feed from at on; the text's end, if there is none.
func feedFrom(s string, at int) int {
back:
	if at < len(s) && s[at] != '\n' {
		at++
		goto back
	}
	return at
}
