package crc_test

import (
	"encoding/binary"
	"hash/crc32"
	"math/big"
	"slices"
)

// Other ways of telling what layer 18 tells: the library's sums and bytes, and bits as those of one great number.

func plainSum(s string) uint32 { return crc32.ChecksumIEEE([]byte(s)) }

func plainFour(n uint32) string {
	return string(binary.LittleEndian.AppendUint32(nil, n))
}

func plainSeal(s string) string { return s + plainFour(plainSum(s)) }

func plainOpen(s string) (string, bool) {
	if len(s) < 4 || plainSeal(s[:len(s)-4]) != s {
		return "", false
	}
	return s[:len(s)-4], true
}

// plainBurst: the bytes are one number, the first one its lowest; what is mixed in is by, moved up, and cut off at the bytes' end.
func plainBurst(s string, at int, by uint32) string {
	if at < 0 || at >= 8*len(s) {
		return s
	}
	bits := new(big.Int).Lsh(big.NewInt(int64(by)), uint(at))
	end := new(big.Int).Lsh(big.NewInt(1), uint(8*len(s)))
	bits.Mod(bits, end)
	bits.Xor(bits, new(big.Int).SetBytes(backwards(s)))
	return string(backwards(string(bits.FillBytes(make([]byte, len(s))))))
}

// backwards: the bytes of s, the last one first.
func backwards(s string) []byte {
	b := []byte(s)
	slices.Reverse(b)
	return b
}
