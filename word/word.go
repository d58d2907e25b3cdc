// Package word writes numbers of 64 binary digits as eight bytes each, the greatest first, and reads them.
// It stands beside the layers, because several of them write their numbers so.
package word

const size = 8

// Write is the bytes of all numbers, one behind the other, in new memory.
func Write(numbers ...uint64) []byte {
	out := make([]byte, 0, size*len(numbers))
	for _, n := range numbers {
		for i := range size {
			out = append(out, byte(n>>(8*(size-1-i))))
		}
	}
	return out
}

// Read is the number that bytes stand for. Of more than eight bytes only the last eight count:
// the callers know how many they have, so none is refused here.
func Read(b []byte) uint64 {
	var n uint64
	for _, x := range b {
		n = n<<8 | uint64(x)
	}
	return n
}
