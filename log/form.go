package log

import (
	"bytes"

	"lantern/api"
)

const (
	maxRecord = 65535
	// ahead is how many bytes stand ahead of a record's own: two tell how many there are, four are the sum.
	ahead = 6
)

// digits is n in k bytes, the highest first.
func digits(n uint64, k int) []byte {
	b := make([]byte, k)
	for i := range b {
		b[k-1-i] = byte(n >> (8 * i))
	}
	return b
}

func number(b []byte) uint64 {
	n := uint64(0)
	for _, x := range b {
		n = n<<8 | uint64(x)
	}
	return n
}

// head is a generation's head.
func head(generation uint64) []byte {
	g := digits(generation, 8)
	b := make([]byte, api.Block)
	copy(b[copy(b, g):], digits(uint64(Sum(g)), 4))
	return b
}

// headed is the generation of a block that is a head; false: it is none.
func headed(b []byte) (uint64, bool) {
	g := number(b[:8])
	if !bytes.Equal(b, head(g)) {
		return 0, false
	}
	return g, true
}

// mark is the sum of a record, which is another one in each generation and place: what lies about from older times fits nowhere.
func mark(generation uint64, place int, b []byte) uint32 {
	where := append(digits(generation, 8), digits(uint64(place), 4)...)
	return sum(append(where, digits(uint64(len(b)), 2)...), b)
}

// written is a record as it is written at a place.
func written(generation uint64, place int, b []byte) []byte {
	w := append(digits(uint64(len(b)), 2), digits(uint64(mark(generation, place, b)), 4)...)
	return append(w, b...)
}

// record is the bytes of the one that is written at a place of a half; none is empty, so nil: there is none.
func record(half []byte, generation uint64, place int) []byte {
	if len(half)-place < ahead {
		return nil
	}
	n := int(number(half[place : place+2]))
	rest := half[place+ahead:]
	if n == 0 || n > len(rest) {
		return nil
	}
	if number(half[place+2:place+ahead]) != uint64(mark(generation, place, rest[:n])) {
		return nil
	}
	return bytes.Clone(rest[:n])
}

// records are those of a half, and where they end.
func records(half []byte, generation uint64) ([][]byte, int) {
	var l [][]byte
	end := 0
	for {
		b := record(half, generation, end)
		if b == nil {
			return l, end
		}
		l = append(l, b)
		end += ahead + len(b)
	}
}
