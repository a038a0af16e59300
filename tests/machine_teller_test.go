package tests

import (
	"encoding/binary"
	"hash/fnv"
	"slices"

	"loop.example/g00385/impl"
)

// sumAgain is Sum, told a second time.
func sumAgain(s string) uint32 {
	h := fnv.New32a()
	h.Write([]byte(s))
	return h.Sum32()
}

// bytesOf tells numbers as bytes, without a Sum.
func bytesOf(numbers ...int) string {
	list := []byte{}
	for _, n := range numbers {
		list = binary.BigEndian.AppendUint64(list, uint64(n))
	}
	return string(list)
}

// summed tells bytes with the Sum of them behind.
func summed(s string) string { return s + bytesOf(int(sumAgain(s))) }

// figuresIn tells the numbers of an image, right or not, in the order of their bytes.
func figuresIn(m impl.Image) []int {
	list := slices.Concat([]int{len(m.Sizes)}, m.Sizes, []int{m.Params, m.Slots, len(m.Code)})
	for _, w := range m.Code {
		list = append(list, w.Op, w.R, w.A, w.B, w.N)
	}
	return list
}

// bytesAgain is PutImage, told a second time, of any image: of one that is not ImageOk, too.
func bytesAgain(m impl.Image) string { return summed(bytesOf(figuresIn(m)...)) }

// imageAgain is the image that has these numbers, and whether there is one that is right.
func imageAgain(list []int) (impl.Image, bool) {
	if len(list) == 0 || !slices.Contains(upTo(len(list)), list[0]) || len(list) < list[0]+4 {
		return impl.Image{}, false
	}
	rest := list[1+list[0]:]
	m := impl.Image{Sizes: list[1 : 1+list[0]], Params: rest[0], Slots: rest[1]}
	for words := range slices.Chunk(rest[3:], 5) {
		if len(words) < 5 {
			return impl.Image{}, false
		}
		m.Code = append(m.Code, impl.Word{Op: words[0], R: words[1], A: words[2], B: words[3], N: words[4]})
	}
	if len(m.Code) != rest[2] || !impl.ImageOk(m) {
		return impl.Image{}, false
	}
	return m, true
}
