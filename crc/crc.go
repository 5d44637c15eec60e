// Package crc is layer 1: check sums of records. See shared/doc/01-crc.md.
package crc

// poly is the polynomial's coefficients, the lowest bit first.
const poly = 0xedb88320

// half is what four bits do to the register.
var half = [16]uint32{
	0x00000000, 0x1db71064, 0x3b6e20c8, 0x26d930ac,
	0x76dc4190, 0x6b6b51f4, 0x4db26158, 0x5005713c,
	0xedb88320, 0xf00f9344, 0xd6d6a3e8, 0xcb61b38c,
	0x9b64c2b0, 0x86d3d2d4, 0xa00ae278, 0xbdbdf21c,
}

// linear is a map of registers that keeps exclusive or: what becomes of each bit.
type linear [32]uint32

// Sum is the check sum of parts.
func Sum(parts ...[]byte) uint32 {
	sum := uint32(0)
	for _, p := range parts {
		sum = Add(sum, p)
	}
	return sum
}

// Add goes on with a check sum.
func Add(sum uint32, b []byte) uint32 {
	return ^feed(^sum, b)
}

// Turn is the check sum of a text with bytes turned.
func Turn(sum uint32, by []byte, behind int) uint32 {
	return sum ^ noughts(feed(0, by), behind)
}

// Solve is the four bytes that bring a check sum to another one.
func Solve(sum, want uint32) [4]byte {
	word := ^sum ^ back(^want)
	var b [4]byte
	for i := range len(b) {
		b[i] = byte(word >> (8 * i))
	}
	return b
}

// feed puts bytes to the register.
func feed(reg uint32, b []byte) uint32 {
	for _, x := range b {
		reg ^= uint32(x)
		for range 2 {
			reg = half[reg&15] ^ reg>>4
		}
	}
	return reg
}

// noughts puts many bytes 0 to the register; by squaring, since there may be more than can be counted up to.
func noughts(reg uint32, many int) uint32 {
	step := oneNought()
	for ; many > 0; many >>= 1 {
		if many&1 == 1 {
			reg = step.of(reg)
		}
		step = step.twice()
	}
	return reg
}

// oneNought is what a byte 0 does.
func oneNought() linear {
	var l linear
	for i := range len(l) {
		l[i] = feed(1<<i, []byte{0})
	}
	return l
}

// of is what becomes of a register.
func (l linear) of(reg uint32) uint32 {
	out := uint32(0)
	for i := range len(l) {
		if reg>>i&1 == 1 {
			out ^= l[i]
		}
	}
	return out
}

// twice is the map done twice.
func (l linear) twice() linear {
	var out linear
	for i := range len(l) {
		out[i] = l.of(l[i])
	}
	return out
}

// back is the register ahead of four bytes 0. The polynomial's highest bit tells which bit went out.
func back(reg uint32) uint32 {
	for range 32 {
		if reg>>31 == 1 {
			reg = (reg^poly)<<1 | 1
		} else {
			reg <<= 1
		}
	}
	return reg
}
