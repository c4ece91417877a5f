package log

// nibbles is what four bits that fall out at the low end turn the sum by: by four bits the table is short, and two of them make a byte.
var nibbles = [16]uint32{
	0x00000000, 0x1db71064, 0x3b6e20c8, 0x26d930ac,
	0x76dc4190, 0x6b6b51f4, 0x4db26158, 0x5005713c,
	0xedb88320, 0xf00f9344, 0xd6d6a3e8, 0xcb61b38c,
	0x9b64c2b0, 0x86d3d2d4, 0xa00ae278, 0xbdbdf21c,
}

// Sum is bytes' sum.
func Sum(b []byte) uint32 { return sum(b, nil) }

// sum is that of a and b behind it, which need not be put together for it.
func sum(a, b []byte) uint32 { return ^turn(turn(^uint32(0), a), b) }

func turn(s uint32, b []byte) uint32 {
	for _, x := range b {
		s ^= uint32(x)
		s = s>>4 ^ nibbles[s&15]
		s = s>>4 ^ nibbles[s&15]
	}
	return s
}
