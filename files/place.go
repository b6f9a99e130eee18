package files

import (
	"maslin/api"
	"maslin/crc"
	"maslin/disk"
	"maslin/octet"
	"maslin/sector"
)

const (
	headerAt  = 0 // the sector that has the header
	areaCount = 2
	logShare  = 8 // one of so many sectors is the log's

	magic    = "FIL1"
	areaSize = 1 // bytes of the area's number in a header
	seqSize  = 8 // bytes of the sequence number in a header
	areaAt   = len(magic)
	seqAt    = areaAt + areaSize
)

// place is a row of sectors of a disk.
type place struct {
	disk    *disk.Disk
	from    int
	sectors int
}

// area is a place that has files as a whole.
type area struct{ place }

// layout returns the places behind the header: the log's, and the areas'.
func layout(d *disk.Disk) (place, [areaCount]area) {
	log := place{disk: d, from: headerAt + 1, sectors: max(api.MinLog, d.Sectors()/logShare)}
	var areas [areaCount]area
	at := log.from + log.sectors
	n := (d.Sectors() - at) / areaCount
	for i := range areas {
		areas[i] = area{place{disk: d, from: at + i*n, sectors: n}}
	}
	return log, areas
}

// capacity returns how many bytes the encoding of files may have.
func (a area) capacity() int {
	return a.sectors*api.SectorSize - countSize
}

// read returns the files that the area has.
func (a area) read() (contents, api.Errno) {
	s, e := a.disk.Read(a.from, a.sectors)
	if e != api.OK {
		return nil, e
	}
	// What is behind the encoding counts for nothing.
	code, _, e := cut(s)
	if e != api.OK {
		return nil, e
	}
	return decoded(code)
}

// write writes files into the area.
func (a area) write(c contents) api.Errno {
	return a.disk.Write(a.from, sector.Fill(counted(c.encoded())))
}

// mark is what a header says; that of a sector that is all 0 is zero.
type mark struct {
	named bool // whether an area is
	area  int
	seq   uint64
}

// readMark returns what the disk's header says.
func readMark(d *disk.Disk) (mark, api.Errno) {
	s, e := d.Read(headerAt, 1)
	if e != api.OK || sector.Blank(s) {
		return mark{}, e
	}
	seq, _ := octet.Get(s[seqAt : seqAt+seqSize])
	m := mark{named: true, area: int(s[areaAt]), seq: seq}
	// Only one sector is the header with these numbers: all other bytes are compared at once.
	if m.area >= areaCount || m.text() != s {
		return mark{}, api.ErrBad
	}
	return m, api.OK
}

// write makes m what the disk's header says.
func (m mark) write(d *disk.Disk) api.Errno {
	return d.Write(headerAt, m.text())
}

// text returns the header's sector.
func (m mark) text() string {
	// Each number fits into its bytes, so there is no error.
	number, _ := octet.Put(uint64(m.area), areaSize)
	seq, _ := octet.Put(m.seq, seqSize)
	return sector.Fill(crc.Seal(magic + number + seq))
}
