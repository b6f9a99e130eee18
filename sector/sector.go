// Package sector has what layers that write whole sectors share.
package sector

import (
	"strings"

	"maslin/api"
)

// Count returns how many sectors n bytes need.
func Count(n int) int {
	return (n + api.SectorSize - 1) / api.SectorSize
}

// Fill returns s, with as many bytes 0 behind it as whole sectors need.
func Fill(s string) string {
	return s + strings.Repeat("\x00", Count(len(s))*api.SectorSize-len(s))
}

// Blank reports whether all bytes of s are 0.
func Blank(s string) bool {
	return strings.Count(s, "\x00") == len(s)
}
