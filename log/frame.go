package log

import "dayshift/api"

// A frame's parts, by the places where they begin; each number has its highest byte first.
const (
	sumAt   = 4
	seqAt   = 8
	headLen = 16
)

// sums has what four bits do to a sum: a table of them all is short.
var sums = [16]uint32{
	0x00000000, 0x1db71064, 0x3b6e20c8, 0x26d930ac, 0x76dc4190, 0x6b6b51f4, 0x4db26158, 0x5005713c,
	0xedb88320, 0xf00f9344, 0xd6d6a3e8, 0xcb61b38c, 0x9b64c2b0, 0x86d3d2d4, 0xa00ae278, 0xbdbdf21c,
}

// Sum is the CRC-32 of bytes.
func Sum(b []byte) uint32 {
	sum := ^uint32(0)
	for _, c := range b {
		sum ^= uint32(c)
		sum = sum>>4 ^ sums[sum&15]
		sum = sum>>4 ^ sums[sum&15]
	}
	return ^sum
}

// Frame is a record as bytes of a log.
func Frame(seq uint64, rec []byte) ([]byte, api.Errno) {
	if len(rec) > api.MaxRecord {
		return nil, api.ErrSize
	}
	room := make([]byte, headLen+len(rec))
	put(room[:sumAt], uint64(len(rec)))
	put(room[seqAt:headLen], seq)
	copy(room[headLen:], rec)
	put(room[sumAt:seqAt], uint64(Sum(room[seqAt:])))
	return room, api.OK
}

// Scan tells the records of some bytes: the number of the first one, all of them, and how many bytes their frames are.
func Scan(b []byte) (uint64, [][]byte, int) {
	var first uint64
	var recs [][]byte
	at := 0
	for {
		seq, rec, ok := unframe(b[at:])
		if !ok || seq == 0 {
			return first, recs, at
		}
		if len(recs) == 0 {
			first = seq
		} else if seq != first+uint64(len(recs)) {
			return first, recs, at
		}
		recs = append(recs, copied(rec))
		at += headLen + len(rec)
	}
}

// unframe has the number and the record, a part of b, of the frame that b begins with.
func unframe(b []byte) (uint64, []byte, bool) {
	if len(b) < headLen {
		return 0, nil, false
	}
	size := get(b[:sumAt])
	if size > api.MaxRecord || size > uint64(len(b)-headLen) {
		return 0, nil, false
	}
	end := headLen + int(size)
	if uint64(Sum(b[seqAt:end])) != get(b[sumAt:seqAt]) {
		return 0, nil, false
	}
	return get(b[seqAt:headLen]), b[headLen:end], true
}

// put fills the room with a number.
func put(room []byte, n uint64) {
	for i := range room {
		room[len(room)-1-i] = byte(n)
		n >>= 8
	}
}

// get has the number that put wrote.
func get(room []byte) uint64 {
	var n uint64
	for _, c := range room {
		n = n<<8 | uint64(c)
	}
	return n
}

func copied(b []byte) []byte {
	room := make([]byte, len(b))
	copy(room, b)
	return room
}
