package crc_test

import (
	"bytes"
	"math"
	"testing"

	"sluiceway/crc"
)

// slow is the chapter's words, bit by bit.
func slow(b []byte) uint32 {
	reg := ^uint32(0)
	for _, x := range b {
		reg ^= uint32(x)
		for i := 0; i < 8; i++ {
			out := reg & 1
			reg >>= 1
			if out == 1 {
				reg ^= 0xedb88320
			}
		}
	}
	return ^reg
}

func text(n int) []byte {
	b := make([]byte, n)
	for i := range b {
		b[i] = byte(i*i*7 + i*3 + 11)
	}
	return b
}

// P1.1
func TestSumAsTold(t *testing.T) {
	if got := crc.Sum([]byte("123456789")); got != 0xcbf43926 {
		t.Errorf("%08x", got)
	}
	if crc.Sum() != 0 || crc.Sum(nil) != 0 || crc.Sum(nil, []byte{}, nil) != 0 {
		t.Error("the sum of nothing")
	}
	for x := range 256 {
		b := []byte{byte(x)}
		if crc.Sum(b) != slow(b) {
			t.Error(x)
		}
	}
	for n := range 300 {
		if crc.Sum(text(n)) != slow(text(n)) {
			t.Error(n)
		}
	}
}

// P1.2
func TestPartsDontMatter(t *testing.T) {
	b := text(40)
	want := slow(b)
	for i := range b {
		for j := i; j <= len(b); j++ {
			if crc.Sum(b[:i], b[i:j], b[j:]) != want {
				t.Error("Sum", i, j)
			}
			if crc.Add(crc.Add(crc.Sum(b[:i]), b[i:j]), b[j:]) != want {
				t.Error("Add", i, j)
			}
		}
	}
	if crc.Add(77, nil) != 77 || crc.Add(0, b) != want {
		t.Error("Add of nothing")
	}
}

// P1.2
func TestChangesInFourBytesAreSeen(t *testing.T) {
	b := text(24)
	want := crc.Sum(b)
	for at := 0; at+4 <= len(b); at++ {
		for x := uint32(1); x != 0; x = x*3 + x>>7&1<<13 {
			c := bytes.Clone(b)
			for k := range 4 {
				c[at+k] ^= byte(x >> (8 * k))
			}
			if crc.Sum(c) == want {
				t.Fatal(at, x)
			}
			if x > 1<<30 {
				break
			}
		}
	}
}

// P1.1
func TestTurn(t *testing.T) {
	b := text(50)
	for n := range 7 {
		by := text(60)[53 : 53+n]
		for behind := 0; behind+n <= len(b); behind++ {
			c := bytes.Clone(b)
			for k, x := range by {
				c[len(c)-behind-n+k] ^= x
			}
			if crc.Turn(slow(b), by, behind) != slow(c) {
				t.Error(n, behind)
			}
		}
	}
	for _, behind := range []int{-1, -4, math.MinInt} {
		if crc.Turn(9, []byte{1, 2}, behind) != crc.Turn(9, []byte{1, 2}, 0) {
			t.Error("below 0", behind)
		}
	}
	if crc.Turn(5, nil, 100) != 5 || crc.Turn(5, []byte{0, 0}, 3) != 5 {
		t.Error("nothing turned")
	}
}

// P1.1: far behind: bits go round with 2^32 - 1 steps at most, and what is turned twice is as it was.
func TestTurnFar(t *testing.T) {
	zeros := make([]byte, 70000)
	c := bytes.Clone(zeros)
	c[0] = 0x5a
	if crc.Turn(slow(zeros), []byte{0x5a}, len(zeros)-1) != slow(c) {
		t.Error("70000")
	}
	round := 1<<32 - 1
	for _, k := range []int{0, 1, 12345, 1 << 20} {
		if crc.Turn(7, []byte{3}, k) != crc.Turn(7, []byte{3}, k+round) || crc.Turn(7, []byte{3}, k) != crc.Turn(7, []byte{3}, k+round*(1<<30)) {
			t.Error("round", k)
		}
	}
	once := crc.Turn(99, []byte{1, 2, 3}, math.MaxInt)
	if once == 99 || crc.Turn(once, []byte{1, 2, 3}, math.MaxInt) != 99 {
		t.Error("twice")
	}
}

// P1.1
func TestSolve(t *testing.T) {
	wants := []uint32{0, 1, 0xffffffff, 0x80000000, 0xedb88320, 0x01020304}
	for n := range 40 {
		for _, w := range wants {
			b := crc.Solve(slow(text(n)), w)
			if slow(append(text(n), b[:]...)) != w {
				t.Error(n, w)
			}
		}
	}
	if b := crc.Solve(slow(text(3)), slow(append(text(3), 4, 5, 6, 7))); b != [4]byte{4, 5, 6, 7} {
		t.Error("back", b)
	}
}

// P1.3
func TestArgumentsStay(t *testing.T) {
	b, by := text(30), text(5)
	full := append(text(30), 1, 2, 3, 4)
	view := full[:30]
	parts := [][]byte{b, view, nil}
	crc.Sum(parts...)
	crc.Add(3, view)
	crc.Turn(3, by, 9)
	if !bytes.Equal(b, text(30)) || !bytes.Equal(by, text(5)) || !bytes.Equal(full, append(text(30), 1, 2, 3, 4)) || len(parts) != 3 || &parts[0][0] != &b[0] {
		t.Error("changed")
	}
}
