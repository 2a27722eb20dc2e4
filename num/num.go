// Package num has numbers as bytes that sort as they do.
package num

import (
	"math/bits"

	"hoard/api"
)

const (
	// most is how many bytes the greatest number has.
	most = 8
	// upwards and downwards are what a byte is turned by: 255 less a byte is that byte with all its bits turned.
	upwards   byte = 0
	downwards byte = 255
)

// digits is a number's bytes: how many it has, then these, the highest first. What stands behind them is 0.
type digits [1 + most]byte

// Up tells the bytes of x, which sort as the numbers do.
func Up(x uint64) string { return write(x, upwards) }

// Down tells the bytes of x downwards, which sort the other way round.
func Down(x uint64) string { return write(x, downwards) }

// Size tells how many bytes Up and Down have for x.
func Size(x uint64) int { return 1 + (bits.Len64(x)+7)/8 }

// Read tells the number at the front of s, and how many bytes it has there.
func Read(s string) (x uint64, n int, e api.Errno) { return read(s, upwards) }

// ReadDown is Read of bytes downwards.
func ReadDown(s string) (x uint64, n int, e api.Errno) { return read(s, downwards) }

func write(x uint64, turn byte) string {
	var d digits
	size := Size(x)
	d[0] = byte(size - 1)
	for i := size - 1; i > 0; i-- {
		d[i] = byte(x)
		x >>= 8
	}
	for i := range size {
		d[i] ^= turn
	}
	return string(d[:size])
}

func read(s string, turn byte) (x uint64, n int, e api.Errno) {
	d, e := take(s, turn)
	if e != api.OK {
		return 0, 0, e
	}
	size := 1 + int(d[0])
	for _, b := range d[1:size] {
		x = x<<8 | uint64(b)
	}
	return x, size, api.OK
}

// take has the bytes of the number at the front of s. That bytes are wanting goes ahead of a first one that is 0, so the latter is asked only when all are there.
func take(s string, turn byte) (digits, api.Errno) {
	var d digits
	have := 0
front:
	for have < len(s) {
		d[have] = s[have] ^ turn
		have++
		switch {
		case d[0] > most:
			return digits{}, api.ErrForm
		case have > int(d[0]):
			break front
		}
	}
	switch {
	case have <= int(d[0]):
		return digits{}, api.ErrShort
	case d[0] > 0 && d[1] == 0:
		return digits{}, api.ErrForm
	}
	return d, api.OK
}
