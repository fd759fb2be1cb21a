package wal

import (
	"slices"

	"countermand/api"
	"countermand/disk"
)

const (
	// leastLen is how many sectors a log's disk has at least: the first one, and one a half.
	leastLen = 3
	// halfBit is the bit of the first sector's first octet that tells which half counts.
	halfBit = 1
)

// halves is a disk with its halves.
type halves struct {
	disk *disk.Disk
	// half is the one that counts, 0 or 1.
	half int
}

// find is the halves of a disk that may have a log, and lives.
func find(d *disk.Disk) (halves, bool) {
	if d.Len() < leastLen || d.Len()%2 == 0 {
		return halves{}, false
	}
	first, ok := d.Read(0)
	if !ok {
		return halves{}, false
	}
	return halves{disk: d, half: told(first)}, true
}

// told is the half that the first sector tells.
func told(first []byte) int {
	return int(first[0] & halfBit)
}

// sectors is how many sectors a half has.
func (h *halves) sectors() int {
	return h.disk.Len() / 2
}

// size is how many octets a half has.
func (h *halves) size() int {
	return h.sectors() * api.SectorSize
}

// place is where on the disk sector i of a half is.
func (h *halves) place(half int, i int) int {
	return 1 + half*h.sectors() + i
}

// octets is all octets of the half that counts.
func (h *halves) octets() []byte {
	var all []byte
	for i := range h.sectors() {
		s, _ := h.disk.Read(h.place(h.half, i))
		all = append(all, s...)
	}
	return all
}

// clean makes octets 0 of what is not 0 in the half that counts, from its octet at on.
func (h *halves) clean(at int) bool {
	for i := at / api.SectorSize; i < h.sectors(); i++ {
		s, ok := h.disk.Read(h.place(h.half, i))
		if !ok {
			return false
		}
		rest := s[max(at-i*api.SectorSize, 0):]
		if !slices.ContainsFunc(rest, isSome) {
			continue
		}
		clear(rest)
		if !h.disk.Write(h.place(h.half, i), s) {
			return false
		}
	}
	return true
}

// isSome tells whether an octet is not 0.
func isSome(o byte) bool {
	return o != 0
}

// lay writes those sectors of a half that have some of all's octets from at on; all is what the half will begin with, and behind it octets 0.
func (h *halves) lay(half int, all []byte, at int) bool {
	for at < len(all) {
		i := at / api.SectorSize
		var s [api.SectorSize]byte
		copy(s[:], all[i*api.SectorSize:])
		if !h.disk.Write(h.place(half, i), s[:]) {
			return false
		}
		at = (i + 1) * api.SectorSize
	}
	return true
}

// turn makes the other half count, which has the frame alone then.
func (h *halves) turn(frame []byte) bool {
	other := 1 - h.half
	if !h.lay(other, make([]byte, h.size()), 0) || !h.lay(other, frame, 0) || !h.tell(other) {
		return false
	}
	h.half = other
	return true
}

// tell makes the first sector tell of a half that it counts.
func (h *halves) tell(half int) bool {
	first, ok := h.disk.Read(0)
	if !ok {
		return false
	}
	first[0] = first[0]&^halfBit | byte(half)
	return h.disk.Write(0, first)
}

// steady makes sure that the disk lives, and tells the half that counts: it may tell the other one, if it died when just that was written.
func (h *halves) steady() bool {
	first, ok := h.disk.Read(0)
	return ok && (told(first) == h.half || h.tell(h.half))
}
