package impl

import "bytes"

const OK = 0
const ErrForm = 1
const ErrMany = 2
const ErrRange = 3
const ErrNone = 4
const ErrText = 5
const ErrSum = 6
const ErrOrder = 7
const MaxData = 4000

// 9 groups of 7 bits hold each int64 that is not below 0, so the shifts of
// ReadVar cannot overflow.
const maxVarSize = 9
const maxZigZag = 1000000000000
const sumMask = 4294967295

// The steps of the sum for half a byte at once: a table for whole bytes would
// be larger than the language allows at package level.
var nibbleSums = [16]uint32{
	0x00000000, 0x1db71064, 0x3b6e20c8, 0x26d930ac,
	0x76dc4190, 0x6b6b51f4, 0x4db26158, 0x5005713c,
	0xedb88320, 0xf00f9344, 0xd6d6a3e8, 0xcb61b38c,
	0x9b64c2b0, 0x86d3d2d4, 0xa00ae278, 0xbdbdf21c,
}

type IntResult struct {
	Code  int64
	Value int64
}
type ReadResult struct {
	Code  int64
	Value int64
	Size  int64
}
type BytesResult struct {
	Code  int64
	Bytes []byte
}

func allWithin(low int64, high int64, numbers ...int64) bool {
	for _, n := range numbers {
		if n < low || n > high {
			return false
		}
	}
	return true
}

func PutVar(n int64) BytesResult {
	if n < 0 {
		return BytesResult{Code: ErrRange}
	}
	var out []byte
	for n >= 128 {
		out = append(out, byte(n%128+128))
		n /= 128
	}
	return BytesResult{Bytes: append(out, byte(n))}
}

func ReadVar(data []byte) ReadResult {
	var value int64
	for i, b := range data[:min(len(data), maxVarSize)] {
		value |= int64(b%128) << (7 * i)
		if b >= 128 {
			continue
		}
		// A last group of 0 makes a second form of a number that fewer bytes have.
		if b == 0 && i > 0 {
			break
		}
		return ReadResult{Value: value, Size: int64(i) + 1}
	}
	return ReadResult{Code: ErrText}
}

func ZigZag(n int64) IntResult {
	if !allWithin(-maxZigZag, maxZigZag, n) {
		return IntResult{Code: ErrRange}
	}
	if n < 0 {
		return IntResult{Value: -2*n - 1}
	}
	return IntResult{Value: 2 * n}
}

func ZagZig(n int64) IntResult {
	if !allWithin(0, 2*maxZigZag, n) {
		return IntResult{Code: ErrRange}
	}
	if n%2 == 1 {
		return IntResult{Value: -(n + 1) / 2}
	}
	return IntResult{Value: n / 2}
}

func CrcOf(data []byte) IntResult {
	if len(data) > MaxData {
		return IntResult{Code: ErrMany}
	}
	sum := uint32(sumMask)
	for _, b := range data {
		sum ^= uint32(b)
		sum = sum>>4 ^ nibbleSums[sum%16]
		sum = sum>>4 ^ nibbleSums[sum%16]
	}
	return IntResult{Value: int64(sum ^ sumMask)}
}

func SameBytes(a []byte, b []byte) bool {
	return bytes.Equal(a, b)
}
