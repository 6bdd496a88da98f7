// Package digest computes digests of texts: see shared/doc/01-digest.md.
package digest

import (
	"strconv"
	"strings"
)

const (
	blockSize = 8  // bytes of a block
	digits    = 16 // hexadecimal digits of a digest

	start        = 1181783497276652981
	firstFactor  = 2862933555777941757
	secondFactor = 3935559000370003845
)

// Sum returns the digest of a text.
func Sum(text string) string {
	next := blocks(text)
	state := start ^ uint64(len(text))
	// The padding has at least one byte, so a text of whole blocks gets one more block.
	for range len(text)/blockSize + 1 {
		state = mix(state ^ next())
	}
	return hexadecimal(state)
}

// List returns the digest of the joined text of a list.
func List(l []string) string {
	return Sum(joined(l))
}

// Is reports whether a text is a digest.
func Is(text string) bool {
	if len(text) != digits {
		return false
	}
	for i := range len(text) {
		if !isDigit(text[i]) {
			return false
		}
	}
	return true
}

// blocks returns a function that returns the blocks of a text, one after the other, as numbers.
func blocks(text string) func() uint64 {
	rest := text
	return func() uint64 {
		var block [blockSize]byte // bytes that the text does not fill stay 0
		rest = rest[copy(block[:], rest):]
		number := uint64(0)
		for _, b := range block {
			number = number<<8 | uint64(b)
		}
		return number
	}
}

// mix maps numbers one to one, because each of its steps can be undone: this is what keeps digests apart.
func mix(x uint64) uint64 {
	x *= firstFactor
	x ^= x >> 32
	x *= secondFactor
	x ^= x >> 29
	return x
}

// hexadecimal returns a number as 16 digits.
func hexadecimal(number uint64) string {
	var text [digits]byte
	for i := range digits {
		text[digits-1-i] = digit(byte(number & 15))
		number >>= 4
	}
	return string(text[:])
}

// digit returns the hexadecimal digit of a number from 0 to 15.
func digit(number byte) byte {
	if number < 10 {
		return '0' + number
	}
	return 'a' + number - 10
}

// isDigit reports whether a byte is a hexadecimal digit; capital letters are none.
func isDigit(b byte) bool {
	return '0' <= b && b <= '9' || 'a' <= b && b <= 'f'
}

// joined returns the joined text of a list. An element stands behind its length, so different lists have different texts.
func joined(l []string) string {
	var b strings.Builder
	for _, element := range l {
		b.WriteString(strconv.Itoa(len(element)))
		b.WriteByte(':')
		b.WriteString(element)
	}
	return b.String()
}
