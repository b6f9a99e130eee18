package sha

import (
	"crypto/sha256"
	"encoding"
	"encoding/binary"
	"strings"
	"testing"

	"maslin/api"
)

// P2.1: the number of bits is that of a long string. To write so much would take too long, so both hashes, this one and that of Go's library, are told that they have had more.
func TestSumLong(t *testing.T) {
	for _, size := range []uint64{1 << 13, 1<<28 - 64, 1 << 28, 1<<29 - 64, 1 << 29, 1<<31 - 64, 1 << 31, 1 << 32, 1 << 40} {
		for _, n := range []uint64{0, 1, 55, 56, 63} {
			s := strings.Repeat("s", int(n))
			h, want := New(), sha256.New()
			h.Write(s)
			want.Write([]byte(s))
			h.size += size
			code, err := want.(encoding.BinaryMarshaler).MarshalBinary()
			if err != nil {
				t.Fatal(err)
			}
			binary.BigEndian.PutUint64(code[len(code)-8:], size+n)
			if err := want.(encoding.BinaryUnmarshaler).UnmarshalBinary(code); err != nil {
				t.Fatal(err)
			}
			for _, more := range []string{"", "m", strings.Repeat("m", 64), strings.Repeat("m", 200)} {
				if e := h.Write(more); e != api.OK {
					t.Fatalf("Write behind %d bytes: %v", size+n, e)
				}
				want.Write([]byte(more))
				if got := h.Sum(); got != string(want.Sum(nil)) {
					t.Errorf("Sum of more than %d bytes: %q", size+n, got)
				}
			}
		}
	}
}

// R5: of what was written no more is kept than what the digest needs, so nothing is made anew.
func TestWriteKeepsNothing(t *testing.T) {
	h, s := New(), strings.Repeat("s", 1000)
	if n := testing.AllocsPerRun(20, func() { h.Write(s) }); n > 0 {
		t.Errorf("Write makes %v things anew", n)
	}
}
