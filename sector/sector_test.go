package sector_test

import (
	"strings"
	"testing"

	"maslin/api"
	"maslin/sector"
)

// Each length about the edges of some sectors.
func TestFill(t *testing.T) {
	for n := range 4*api.SectorSize + 2 {
		want := 0
		for want*api.SectorSize < n {
			want++
		}
		s := strings.Repeat("x", n)
		got := sector.Fill(s)
		if sector.Count(n) != want || len(got) != want*api.SectorSize {
			t.Errorf("%d bytes: %d sectors, filled %d bytes; not %d sectors", n, sector.Count(n), len(got), want)
		}
		if got != s+strings.Repeat("\x00", len(got)-n) {
			t.Errorf("%d bytes: filled %q", n, got)
		}
	}
}

// One byte that is not 0 anywhere is enough.
func TestBlank(t *testing.T) {
	for n := range api.SectorSize + 2 {
		s := strings.Repeat("\x00", n)
		if !sector.Blank(s) {
			t.Errorf("%d bytes 0 are not", n)
		}
		for i := range n {
			for _, v := range []string{"\x01", "\x80", "\xff", "0"} {
				if sector.Blank(s[:i] + v + s[i+1:]) {
					t.Errorf("%q at %d of %d is", v, i, n)
				}
			}
		}
	}
}
