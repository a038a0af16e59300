package tests

import (
	"fmt"
	"math"
	"math/rand"
	"slices"
	"strings"
	"testing"

	"loop.example/g00385/impl"
)

// wantImageAgain tells that an image that is ImageOk comes back from its bytes, which are told a second time.
func wantImageAgain(t *testing.T, name string, m impl.Image) {
	t.Helper()
	s := impl.PutImage(m)
	if want := bytesAgain(m); s != want {
		t.Fatalf("%s: %.500s is put as %.500q; want %.500q", name, plain(m), s, want)
	}
	if got, ok := impl.GetImage(s); !ok || !impl.SameImage(got, m) {
		t.Fatalf("%s: %.500s comes back as %.500s, %t", name, plain(m), plain(got), ok)
	}
}

// wantNoImage tells bytes that are no image's.
func wantNoImage(t *testing.T, name string, s string) {
	t.Helper()
	if got, ok := impl.GetImage(s); ok || !impl.SameImage(got, impl.Image{}) {
		t.Errorf("%s: %.300q is read as %.300s, %t", name, s, plain(got), ok)
	}
}

func TestPutImage(t *testing.T) {
	// The least image, byte by byte.
	least := impl.Image{Sizes: []int{1}, Code: []impl.Word{{Op: impl.OpJmp}}}
	want := "\x00\x00\x00\x00\x00\x00\x00\x01" + "\x00\x00\x00\x00\x00\x00\x00\x01" + strings.Repeat("\x00", 16) + "\x00\x00\x00\x00\x00\x00\x00\x01" +
		"\x00\x00\x00\x00\x00\x00\x00\x08" + strings.Repeat("\x00", 32) + "\x00\x00\x00\x00\xf8\xa3\x08\xca"
	if got := impl.PutImage(least); got != want {
		t.Errorf("the least image is put as %q", got)
	}
	wantImageAgain(t, "the least image", least)
	wantImageAgain(t, "each Op", wholeImage())
	if got := len(impl.PutImage(wholeImage())); got != 8*(1+2+3+5*12+1) {
		t.Errorf("%d bytes", got)
	}
	// Numbers of 64 bits, also below 0: the highest byte first.
	for n, bytes := range map[int]string{
		0: "\x00\x00\x00\x00\x00\x00\x00\x00", 1: "\x00\x00\x00\x00\x00\x00\x00\x01", 255: "\x00\x00\x00\x00\x00\x00\x00\xff", 256: "\x00\x00\x00\x00\x00\x00\x01\x00",
		-1: "\xff\xff\xff\xff\xff\xff\xff\xff", -2: "\xff\xff\xff\xff\xff\xff\xff\xfe", -256: "\xff\xff\xff\xff\xff\xff\xff\x00",
		math.MinInt: "\x80\x00\x00\x00\x00\x00\x00\x00", math.MaxInt: "\x7f\xff\xff\xff\xff\xff\xff\xff", math.MinInt + 1: "\x80\x00\x00\x00\x00\x00\x00\x01",
		1 << 31: "\x00\x00\x00\x00\x80\x00\x00\x00", 1 << 32: "\x00\x00\x00\x01\x00\x00\x00\x00", -1 << 31: "\xff\xff\xff\xff\x80\x00\x00\x00", -1 << 32: "\xff\xff\xff\xff\x00\x00\x00\x00",
		0x0102030405060708: "\x01\x02\x03\x04\x05\x06\x07\x08", -0x7ffefdfcfbfaf9f8: "\x80\x01\x02\x03\x04\x05\x06\x08",
	} {
		m := impl.Image{Sizes: []int{1}, Code: []impl.Word{{R: 3, N: n}, {Op: impl.OpRet}}}
		if got := impl.PutImage(m)[8*9 : 8*10]; got != bytes {
			t.Errorf("%d is put as %q", n, got)
		}
		wantImageAgain(t, fmt.Sprint(n), m)
	}
	// Every field has bytes of its own.
	m := impl.Image{Sizes: []int{7, 16, 3}, Params: 2, Slots: 900, Code: []impl.Word{{Op: impl.OpAlu, R: 15, A: 14, B: 13, N: 5}, {Op: impl.OpRet, R: 9}}}
	if got := impl.PutImage(m); got != summed(bytesOf(3, 7, 16, 3, 2, 900, 2, 3, 15, 14, 13, 5, 10, 9, 0, 0, 0)) {
		t.Errorf("put as %q", got)
	}
	if got := impl.PutImage(impl.Image{}); got != "" {
		t.Errorf("the zero value is put as %q", got)
	}
}

func TestGetImageOfMadeImages(t *testing.T) {
	for seed := range int64(seeds) {
		m, _, _ := madeImage(seed)
		wantImageAgain(t, fmt.Sprint("seed ", seed), m)
	}
	// Limits that are met: most words, regions, slots, and a graph that is as great as can be.
	wantImageAgain(t, "most words", impl.Image{Sizes: []int{16, 16, 16, 16}, Params: 6, Slots: impl.MaxSlots, Code: manyWords(6000)})
	wantImageAgain(t, "most steps", impl.Code(mostSteps()))
	wantImageAgain(t, "no slot", impl.Image{Sizes: []int{16}, Code: manyWords(1)})
	wantImageAgain(t, "slots as parameters", impl.Image{Sizes: []int{16}, Params: 6, Slots: 6, Code: manyWords(2)})
}

// twoWords is an image of few bytes, so that each of them can be changed.
func twoWords() impl.Image {
	return impl.Image{Sizes: []int{4, 2}, Params: 1, Slots: 3, Code: []impl.Word{{R: 1, N: -9}, {Op: impl.OpRet, R: 1}}}
}

func TestGetImageOfBytesThatAreCutOrChanged(t *testing.T) {
	wantNoImage(t, "the empty text", "")
	for name, m := range map[string]impl.Image{"two words": twoWords(), "each Op": wholeImage()} {
		s := impl.PutImage(m)
		for at := range len(s) {
			// Cut anywhere, at its beginning too, also where a number ends, and with a Sum that is right.
			wantNoImage(t, name+" cut", s[:at])
			wantNoImage(t, name+" cut ahead", s[len(s)-at:])
			wantNoImage(t, name+" cut, with its Sum", summed(s[:min(at, len(s)-9)]))
			wantNoImage(t, name+" without a byte", s[:at]+s[at+1:])
			wantNoImage(t, name+" without a byte, with its Sum", summed(s[:min(at, len(s)-9)]+s[min(at, len(s)-9)+1:len(s)-8]))
			for _, more := range []string{"\x00", "\x01", "x", "\xff", s[at : at+1], strings.Repeat("\x00", 8), bytesOf(1), bytesOf(10, 1, 0, 0, 0)} {
				wantNoImage(t, name+" with more", s[:at]+more+s[at:])
				wantNoImage(t, name+" with more at its end", s+more)
				if len(more) == 1 || at%8 == 0 && len(more) == 8 {
					wantNoImage(t, name+" with more, with its Sum", summed(s[:min(at, len(s)-8)]+more+s[min(at, len(s)-8):len(s)-8]))
				}
			}
			// Another byte: its Sum is of other bytes.
			for _, bits := range []byte{1, 2, 0x10, 0x80, 0xff} {
				wantNoImage(t, name+" with another byte", s[:at]+string([]byte{s[at] ^ bits})+s[at+1:])
			}
		}
		wantNoImage(t, name+" twice", s+s)
		wantNoImage(t, name+" with its Sum twice", summed(s))
	}
}

func TestGetImageOfOtherSums(t *testing.T) {
	high, low := 0, 0
	for n := range 40 {
		m := twoWords()
		m.Code[0].N = n
		s := bytesOf(figuresIn(m)...)
		sum := int(sumAgain(s))
		if got, ok := impl.GetImage(s + bytesOf(sum)); !ok || !impl.SameImage(got, m) {
			t.Fatalf("%s is not read", plain(m))
		}
		for name, other := range map[string]int{
			"one more": sum + 1, "one less": sum - 1, "none": 0, "that of no byte": 2166136261, "all bits": -1, "below 0": -sum, "turned": ^sum, "above 32 bits": sum + 1<<32, "far above": sum + math.MinInt,
			"of the bytes backwards": int(sumAgain(backward(s))), "with itself": int(sumAgain(s + bytesOf(sum))), "without the last byte": int(sumAgain(s[:len(s)-1])), "of other bytes": int(sumAgain(s[:len(s)-1] + "\x01")),
			"as bits of 31": sum & (1<<31 - 1), "in the higher half": sum << 32,
		} {
			if other != sum {
				wantNoImage(t, name, s+bytesOf(other))
			}
		}
		// Where it is above 31 bits, a sign ahead would make it another number.
		if sum>>31 > 0 {
			high++
			wantNoImage(t, "with a sign", s+bytesOf(int(int32(uint32(sum)))))
		} else {
			low++
		}
		wantNoImage(t, "without it", s)
		wantNoImage(t, "with its bytes backwards", s+backward(bytesOf(sum)))
		wantNoImage(t, "with four bytes of it", s+bytesOf(sum)[4:])
		wantNoImage(t, "ahead of the bytes", bytesOf(sum)+s)
	}
	if high == 0 || low == 0 {
		t.Errorf("%d sums are high, %d low", high, low)
	}
}

func backward(s string) string {
	list := []byte(s)
	slices.Reverse(list)
	return string(list)
}

func TestGetImageOfWrongCounts(t *testing.T) {
	m := twoWords()
	list := figuresIn(m)
	const sizes, words = 0, 5
	far := []int{math.MinInt, math.MinInt + 2, -1 << 62, -1<<61 + 2, -1 << 32, -2, -1, 0, 1, 3, 4, 5, 1000, 6000, 6001, 1 << 31, 1 << 32, 1<<32 + 2, 1 << 60, 1<<60 + 2, 1 << 61, 1<<61 + 2, 1 << 62, 1<<62 + 2, math.MaxInt - 1, math.MaxInt}
	for _, at := range []int{sizes, words} {
		for _, n := range far {
			other := slices.Clone(list)
			other[at] = n
			wantNoImage(t, fmt.Sprint("number ", at, " is ", n), summed(bytesOf(other...)))
		}
	}
	// Counts that fit what follows, but pass the limits.
	for name, m := range map[string]impl.Image{
		"no size": {Code: manyWords(2)}, "five sizes": {Sizes: []int{1, 1, 1, 1, 1}, Code: manyWords(2)}, "no word": {Sizes: []int{1}}, "6001 words": {Sizes: []int{1}, Code: manyWords(6001)}, "20000 words": {Sizes: []int{1}, Code: manyWords(20000)},
		"many sizes": {Sizes: slices.Repeat([]int{1}, 500), Code: manyWords(1)}, "nothing": {},
	} {
		wantNoImage(t, name, bytesAgain(m))
	}
	// A count alone, with nothing behind it.
	for _, n := range far {
		wantNoImage(t, "a count", bytesOf(n))
		wantNoImage(t, "a count with its Sum", summed(bytesOf(n)))
		wantNoImage(t, "counts", summed(bytesOf(1, 4, 0, 0, n)))
	}
}

func TestGetImageOfBytesOfWrongImages(t *testing.T) {
	for name, m := range wrongImages() {
		wantNoImage(t, name, bytesAgain(m))
	}
	farImages(func(m impl.Image) { wantNoImage(t, plain(m), bytesAgain(m)) })
	// Texts that nobody made of an image.
	for _, s := range []string{"x", "mem 4", "\x00", "\xff\xfe", strings.Repeat("\x00", 8), strings.Repeat("\x00", 96), strings.Repeat("\xff", 96), strings.Repeat("\x01", 800), strings.Repeat("\x00", 300000), impl.ShowCode(wholeImage())} {
		wantNoImage(t, "a text", s)
		wantNoImage(t, "a text with its Sum", summed(s))
	}
}

func TestGetImageOfChangedNumbers(t *testing.T) {
	r := rand.New(rand.NewSource(14))
	there := map[bool]int{}
	for seed := range int64(seeds) {
		m, _, _ := madeImage(seed)
		list := figuresIn(m)
		for range 5 {
			other := slices.Clone(list)
			at := r.Intn(len(other))
			switch r.Intn(4) {
			case 0:
				other[at] += r.Intn(5) - 2
			case 1:
				other[at] = someNumber(r)
			case 2:
				other = slices.Delete(other, at, min(len(other), at+[]int{1, 5}[r.Intn(2)]))
			case 3:
				other = slices.Insert(other, at, someNumbers(r, []int{1, 5}[r.Intn(2)])...)
			}
			want, right := imageAgain(other)
			s := summed(bytesOf(other...))
			got, ok := impl.GetImage(s)
			if ok != right || !impl.SameImage(got, want) {
				t.Fatalf("seed %d: %v is read as %s, %t; want %s, %t", seed, other, plain(got), ok, plain(want), right)
			}
			if ok && impl.PutImage(got) != s {
				t.Fatalf("seed %d: %v is put as other bytes", seed, other)
			}
			there[ok]++
		}
	}
	if there[true] < seeds/2 || there[false] < seeds {
		t.Errorf("%v", there)
	}
}

func TestSum(t *testing.T) {
	for s, want := range map[string]uint32{
		"": 2166136261, "a": 3826002220, "b": 3876335077, "ab": 1294271946, "ba": 1009493708, "foobar": 3214735720, "\x00": 84696351, "\x00\x00": 292984781,
		// Bytes from 128 on, one by one, whether or not they are letters together.
		"\x80": 2232128415, "\xff": 2047574606, "\xc3\xa4": 429777122, "\xff\xfe\x80": 811680688,
		// Far around 32 bits.
		strings.Repeat("\xff", 1000): 3662916093, strings.Repeat("\x80", 300000): 396094789,
	} {
		if got := impl.Sum(s); got != want || got != sumAgain(s) {
			t.Errorf("Sum(%.20q) = %d; want %d", s, got, want)
		}
	}
	r := rand.New(rand.NewSource(7))
	for n := range 2000 {
		list := make([]byte, n%50)
		r.Read(list)
		if s := string(list); impl.Sum(s) != sumAgain(s) {
			t.Fatalf("Sum(%q) = %d; want %d", s, impl.Sum(s), sumAgain(s))
		}
	}
	for b := range 256 {
		if s := string([]byte{byte(b)}); impl.Sum(s) != sumAgain(s) {
			t.Errorf("Sum(%q) = %d; want %d", s, impl.Sum(s), sumAgain(s))
		}
	}
}

// roomyList makes a copy with spare room behind it.
func roomyList(list []int) []int { return append(make([]int, 0, 2*len(list)+9), list...) }

func TestTheMachineWritesIntoNothing(t *testing.T) {
	someImages(func(m impl.Image) {
		m, tell := roomyImage(m)
		for _, n := range []int{max(0, min(m.Params, 9)), 3} {
			args, input := roomyList(upTo(n)), roomyList([]int{4, 5, 6})
			all := func() string { return tell() + plain(args[:cap(args)]) + plain(input[:cap(input)]) }
			ahead := all()
			impl.Exec(m, args, input, 500)
			impl.Exec(m, args, input, -1)
			impl.Cost(m, args, input)
			impl.PutImage(m)
			if all() != ahead {
				t.Fatalf("written into: %s", plain(m))
			}
		}
	})
}

func TestAnswersOfTheMachineAreNewMemory(t *testing.T) {
	someImages(func(m impl.Image) {
		args, input := make([]int, max(0, min(m.Params, 9))), []int{4, 5, 6}
		s := impl.PutImage(m)
		tell := func() string {
			got, ok := impl.GetImage(s)
			return plain([]any{m, args, input, impl.Exec(m, args, input, 100), impl.PutImage(m), s, got, ok})
		}
		ahead := tell()
		out := impl.Exec(m, args, input, 100).Out
		spoil(out[:cap(out)])
		got, _ := impl.GetImage(s)
		spoilImage(got)
		if tell() != ahead {
			t.Fatalf("an answer shares memory with %s", plain(m))
		}
		if len(s) > 0 && within(impl.PutImage(m), s) {
			t.Fatalf("two answers share memory: the bytes of %s", plain(m))
		}
	})
}

func TestTheMachineTellsAlikeEachTime(t *testing.T) {
	for seed := range int64(100) {
		m, args, input := madeImage(seed)
		tell := func() string {
			got, ok := impl.GetImage(impl.PutImage(m))
			return plain([]any{impl.Exec(m, args, input, 200), impl.Cost(m, args, input), impl.PutImage(m), got, ok})
		}
		want := tell()
		for range 5 {
			if got := tell(); got != want {
				t.Fatalf("of\n%sis told %s and %s", impl.ShowCode(m), want, got)
			}
		}
	}
}
