package seal_test

import (
	"encoding/binary"
	"slices"
	"strconv"
	"strings"

	"planisphere/api"
	"planisphere/digest"
)

// plainDigits returns the digits of a message, word for word as the chapter says it.
func plainDigits(message string) []int {
	var digits []int
	checksum := 0
	for _, c := range digest.Sum(message) {
		d := strings.IndexRune("0123456789abcdef", c)
		digits = append(digits, d)
		checksum += 15 - d
	}
	return append(digits, checksum/16, checksum%16)
}

// plainChain returns the chain of a text.
func plainChain(text string, n int) string {
	if n == 0 {
		return text
	}
	return digest.Sum(plainChain(text, n-1))
}

// plainStart returns the start of the chain k of the key i of a secret.
func plainStart(secret string, i, k int) string {
	return digest.List([]string{secret, strconv.Itoa(i), strconv.Itoa(k)})
}

// plainKey returns the one-time key i of a secret.
func plainKey(secret string, i int) string {
	var ends []string
	for k := range 18 {
		ends = append(ends, plainChain(plainStart(secret, i, k), 15))
	}
	return digest.List(ends)
}

// plainTree returns the digest at an index of a level of the tree of a secret.
func plainTree(secret string, level, index int) string {
	if level == 0 {
		return plainKey(secret, index)
	}
	return plainNode(plainTree(secret, level-1, 2*index), plainTree(secret, level-1, 2*index+1))
}

func plainNode(a, b string) string {
	return digest.List([]string{"node", a, b})
}

// plainSeal returns the seal of a message.
func plainSeal(secret string, height, index int, message string) api.Seal {
	s := api.Seal{Index: index}
	for k, d := range plainDigits(message) {
		s.Sig = append(s.Sig, plainChain(plainStart(secret, index, k), d))
	}
	for level := range height {
		s.Path = append(s.Path, plainTree(secret, level, index>>level^1))
	}
	return s
}

// plainRoot returns the root that follows from a seal, whatever its texts, its index and their numbers are.
func plainRoot(message string, s api.Seal) string {
	digits := plainDigits(message)
	var ends []string
	for k, text := range s.Sig {
		if k < len(digits) {
			text = plainChain(text, 15-digits[k])
		}
		ends = append(ends, text)
	}
	root := digest.List(ends)
	for i, other := range s.Path {
		if s.Index>>i&1 == 1 {
			root = plainNode(other, root)
		} else {
			root = plainNode(root, other)
		}
	}
	return root
}

// equalSeals reports whether two seals are equal.
func equalSeals(a, b api.Seal) bool {
	return a.Index == b.Index && slices.Equal(a.Sig, b.Sig) && slices.Equal(a.Path, b.Path)
}

// copySeal returns a seal that shares no memory with another one.
func copySeal(s api.Seal) api.Seal {
	return api.Seal{Index: s.Index, Sig: slices.Clone(s.Sig), Path: slices.Clone(s.Path)}
}

// Numbers of the digest of a text, as chapter 1 says.
const (
	digestStart = 1181783497276652981
	factor1     = 2862933555777941757
	factor2     = 3935559000370003845
)

// mix is what a digest does to a state.
func mix(x uint64) uint64 {
	x *= factor1
	x ^= x >> 32
	x *= factor2
	return x ^ x>>29
}

// unmix takes back what mix does.
func unmix(x uint64) uint64 {
	x ^= x>>29 ^ x>>58
	x *= inverse(factor2)
	x ^= x >> 32
	return x * inverse(factor1)
}

// inverse returns the number that, times an odd number, is 1 modulo 2^64.
func inverse(odd uint64) uint64 {
	x := odd // right in its last three bits; each step doubles them
	for range 5 {
		x *= 2 - odd*x
	}
	return x
}

// withDigest returns the text of 8 bytes that has a digest.
func withDigest(number uint64) string {
	block := unmix(unmix(number)) ^ digestStart ^ 8
	return string(binary.BigEndian.AppendUint64(nil, block))
}

// longWithDigest returns one of the texts of 16 bytes that have a digest: the one with a first block.
func longWithDigest(number, first uint64) string {
	second := unmix(unmix(number)) ^ mix(digestStart^16^first)
	return string(binary.BigEndian.AppendUint64(binary.BigEndian.AppendUint64(nil, first), second))
}

// someMessages returns ordinary messages, and some with chosen digests.
func someMessages() []string {
	l := []string{"", "message", "\x00", "\xff\xfe", "é 山頂", "a longer message, of some words", strings.Repeat("long ", 5000)}
	for _, number := range []uint64{0, 1, 1 << 63, 0x0123456789abcdef, 0xfedcba9876543210, 1<<64 - 1, 1<<64 - 2, 0xffffffff00000000, 0xf0f0f0f0f0f0f0f0, 0x8888888877777777} {
		l = append(l, withDigest(number))
	}
	return l
}

// someSecrets returns secrets, among them an empty one and those that begin alike.
func someSecrets() []string {
	return []string{"", "s", "s1", "1", "11", "secret", "secret ", "\x00", "\xff\x00", "山", strings.Repeat("x", 1000)}
}
