package tests

import (
	"fmt"
	"math/rand"
	"slices"
	"strings"
	"testing"

	"loop.example/g00207/impl"
)

func sketchOf(size int64, numbers ...int64) impl.Sketch {
	return impl.Sketch{Size: size, Bits: numbers}
}

// fullSketch has all numbers below its Size set.
func fullSketch(size int64) impl.Sketch {
	return sketchOf(size, risingFrom(0, int(size))...)
}

func sameSketch(a, b impl.Sketch) bool {
	return a.Size == b.Size && slices.Equal(a.Bits, b.Bits)
}

func isZeroSketch(s impl.Sketch) bool {
	return s.Size == 0 && len(s.Bits) == 0
}

func isSketchSize(size int64) bool { return 7 < size && size < 513 }

// plainSketchOk tells SketchOk once more: in order and each once, the numbers are as they were.
func plainSketchOk(s impl.Sketch) bool {
	inOrder := slices.Clone(s.Bits)
	slices.Sort(inOrder)
	inOrder = slices.Compact(inOrder)
	if !isSketchSize(s.Size) || !slices.Equal(inOrder, s.Bits) {
		return false
	}
	return len(inOrder) == 0 || inOrder[0] > -1 && inOrder[len(inOrder)-1] < s.Size
}

// rawMarks are those of a key as they come.
func rawMarks(size int64, key string) []int64 {
	var numbers []int64
	for dots := range 3 {
		numbers = append(numbers, quickHash(key+strings.Repeat(".", dots))%size)
	}
	return numbers
}

func plainMarks(size int64, key string) []int64 {
	if !isSketchSize(size) {
		return nil
	}
	numbers := rawMarks(size, key)
	slices.Sort(numbers)
	return slices.Compact(numbers)
}

// plainUnion has a number where one of the lists has it.
func plainUnion(size int64, a, b []int64) impl.Sketch {
	union := impl.Sketch{Size: size}
	for number := range size {
		if slices.Contains(a, number) || slices.Contains(b, number) {
			union.Bits = append(union.Bits, number)
		}
	}
	return union
}

func plainMarked(s impl.Sketch, key string) impl.Sketch {
	if !plainSketchOk(s) {
		return impl.Sketch{}
	}
	return plainUnion(s.Size, s.Bits, plainMarks(s.Size, key))
}

func plainPerhaps(s impl.Sketch, key string) bool {
	return plainSketchOk(s) && len(lackingAll(plainMarks(s.Size, key), s.Bits)) == 0
}

func plainBoth(s, t impl.Sketch) (impl.Sketch, bool) {
	if !plainSketchOk(s) || !plainSketchOk(t) || s.Size != t.Size {
		return impl.Sketch{}, false
	}
	return plainUnion(s.Size, s.Bits, t.Bits), true
}

// lackingAll are the numbers of the first list that the second one has not.
func lackingAll(list, others []int64) []int64 {
	return slices.DeleteFunc(slices.Clone(list), func(number int64) bool { return slices.Contains(others, number) })
}

func toldSketch(s impl.Sketch) string {
	return fmt.Sprintf("%d of %.150s", s.Size, fmt.Sprint(s.Bits))
}

func checkSketchOk(t *testing.T, s impl.Sketch, want bool) {
	t.Helper()
	if got := impl.SketchOk(s); got != want {
		t.Errorf("SketchOk(%s): %v", toldSketch(s), got)
	}
}

func checkNewSketch(t *testing.T, size int64, want bool) {
	t.Helper()
	wanted := impl.Sketch{}
	if want {
		wanted.Size = size
	}
	if got, is := impl.NewSketch(size); is != want || !sameSketch(got, wanted) {
		t.Errorf("NewSketch(%d): %s, %v", size, toldSketch(got), is)
	}
}

func checkMarks(t *testing.T, size int64, key string, want ...int64) {
	t.Helper()
	if got := impl.Marks(size, key); !slices.Equal(got, want) {
		t.Errorf("Marks(%d, %.100q): %v, not %v", size, key, got, want)
	}
}

func checkMarked(t *testing.T, s impl.Sketch, key string, want impl.Sketch) {
	t.Helper()
	if got := impl.Marked(s, key); !sameSketch(got, want) {
		t.Errorf("Marked(%s, %.100q): %s, not %s", toldSketch(s), key, toldSketch(got), toldSketch(want))
	}
}

func checkPerhaps(t *testing.T, s impl.Sketch, key string, want bool) {
	t.Helper()
	if got := impl.Perhaps(s, key); got != want {
		t.Errorf("Perhaps(%s, %.100q): %v", toldSketch(s), key, got)
	}
}

func checkBoth(t *testing.T, a, b, want impl.Sketch) {
	t.Helper()
	if got, is := impl.Both(a, b); !is || !sameSketch(got, want) {
		t.Errorf("Both(%s, %s): %s, %v, not %s", toldSketch(a), toldSketch(b), toldSketch(got), is, toldSketch(want))
	}
}

func checkNotBoth(t *testing.T, a, b impl.Sketch) {
	t.Helper()
	if got, is := impl.Both(a, b); is || !isZeroSketch(got) {
		t.Errorf("Both(%s, %s): %s, %v", toldSketch(a), toldSketch(b), toldSketch(got), is)
	}
}

// checkAllOfSketch holds every function that takes one Sketch against its second telling.
func checkAllOfSketch(t *testing.T, s impl.Sketch, key string) {
	t.Helper()
	checkSketchOk(t, s, plainSketchOk(s))
	checkMarked(t, s, key, plainMarked(s, key))
	checkPerhaps(t, s, key, plainPerhaps(s, key))
}

func checkBothAsTold(t *testing.T, a, b impl.Sketch) {
	t.Helper()
	if want, is := plainBoth(a, b); is {
		checkBoth(t, a, b, want)
	} else {
		checkNotBoth(t, a, b)
	}
}

// drawnSketch is right; how many numbers it has set is drawn, too, from none to all.
func drawnSketch(source *rand.Rand, size int64) impl.Sketch {
	s, set := impl.Sketch{Size: size}, source.Intn(101)
	for number := range size {
		if source.Intn(100) < set {
			s.Bits = append(s.Bits, number)
		}
	}
	return s
}

func drawnSize(source *rand.Rand) int64 {
	if source.Intn(3) == 0 {
		return []int64{8, 9, 64, 511, 512}[source.Intn(5)]
	}
	return 8 + source.Int63n(505)
}

func outsideSizes() []int64 {
	return []int64{7, 513, 0, 1, -1, -7, -8, -512, 6, 514, 1000, 1024, 1 << 16, 1 << 31, 1<<31 + 8, 1 << 32, 1<<32 + 8, 1<<32 + 512, -1 << 32, 8 - 1<<32, greatest - 1, greatest, least, least + 1, least + 8}
}

// wrongSketches have a Size that is out of range, a number that is, or numbers that do not rise.
func wrongSketches() []impl.Sketch {
	list := []impl.Sketch{{}, {Bits: []int64{0}}}
	for _, size := range outsideSizes() {
		list = append(list, sketchOf(size), sketchOf(size, 0), sketchOf(size, 3), sketchOf(size, 1, 2, 6), sketchOf(size, size-1))
	}
	for _, size := range []int64{8, 9, 64, 511, 512} {
		for _, wrong := range []int64{-1, size, -2, size + 1, 512, 513, -size, 1 << 16, 1 << 31, 1 << 32, 1<<32 + 3, -1 << 32, greatest, greatest - 1, least, least + 1} {
			if wrong >= 0 && wrong < size {
				continue
			}
			list = append(list, sketchOf(size, wrong), sketchOf(size, wrong, 3), sketchOf(size, 3, wrong), sketchOf(size, 3, wrong, 5), sketchOf(size, wrong, wrong))
			for _, at := range []int64{0, size / 2, size - 1} {
				full := fullSketch(size)
				full.Bits[at] = wrong
				list = append(list, full)
			}
		}
		for at := range size - 1 {
			alike, falls := fullSketch(size), fullSketch(size)
			alike.Bits[at+1] = alike.Bits[at]
			falls.Bits[at], falls.Bits[at+1] = falls.Bits[at+1], falls.Bits[at]
			if at < 4 || at > size-6 {
				list = append(list, alike, falls)
			}
		}
		list = append(list, sketchOf(size, 0, 0), sketchOf(size, size-1, size-1), sketchOf(size, 1, 0), sketchOf(size, size-1, 0), sketchOf(size, 0, 2, 1), sketchOf(size, 2, 1, 0), sketchOf(size, 1, 2, 1), sketchOf(size, 0, 1, 1, 2), sketchOf(size, 0, 0, 1), sketchOf(size, 5, 3, 4))
		list = append(list, sketchOf(size, risingFrom(0, int(size)+1)...), sketchOf(size, risingFrom(-1, int(size))...), sketchOf(size, risingFrom(-1, int(size)+2)...))
		list = append(list, sketchOf(size, make([]int64, 100000)...), sketchOf(size, risingFrom(0, 100000)...), sketchOf(size, risingFrom(-100000, 100000)...))
		list = append(list, sketchOf(size, slices.Repeat(risingFrom(0, int(size)), 2)...), sketchOf(size, slices.Repeat([]int64{7}, 512)...))
	}
	return list
}

func TestSketchConstants(t *testing.T) {
	if impl.MaxSketch != 512 {
		t.Fatal(impl.MaxSketch)
	}
}

func TestSketchOkBySize(t *testing.T) {
	for size := int64(-20); size < 1100; size++ {
		right := 8 <= size && size <= 512
		checkSketchOk(t, impl.Sketch{Size: size}, right)
		checkSketchOk(t, sketchOf(size, []int64{}...), right)
		checkSketchOk(t, impl.Sketch{Size: size, Bits: []int64{}}, right)
		checkSketchOk(t, sketchOf(size, 0), right)
		checkSketchOk(t, sketchOf(size, size-1), right)
		checkSketchOk(t, sketchOf(size, size), false)
		checkSketchOk(t, sketchOf(size, -1), false)
		checkSketchOk(t, sketchOf(size, risingFrom(0, int(max(size, 0)))...), right)
		checkSketchOk(t, sketchOf(size, risingFrom(0, int(max(size, 0))+1)...), false)
	}
	for _, size := range outsideSizes() {
		checkSketchOk(t, sketchOf(size), false)
	}
	checkSketchOk(t, impl.Sketch{}, false)
}

func TestSketchOkByBits(t *testing.T) {
	for _, size := range []int64{8, 64, 512} {
		for number := range size {
			checkSketchOk(t, sketchOf(size, number), true)
			full := fullSketch(size)
			full.Bits = slices.Delete(full.Bits, int(number), int(number)+1)
			checkSketchOk(t, full, true)
			full.Bits = slices.Insert(full.Bits, int(number), number, number)
			checkSketchOk(t, full, false)
		}
		for at := range size - 1 {
			falls := fullSketch(size)
			falls.Bits[at], falls.Bits[at+1] = falls.Bits[at+1], falls.Bits[at]
			checkSketchOk(t, falls, false)
		}
		last := size - 1
		for _, right := range [][]int64{{0, last}, {0, 1}, {last - 1, last}, {0, 3, last}, {1, 2, 4}, {2, 5}} {
			checkSketchOk(t, sketchOf(size, right...), true)
		}
		for _, wrong := range [][]int64{
			{-1}, {-1, 0}, {-1, 3, 5}, {0, -1}, {3, 5, -1}, {-1, last}, {last, -1}, {-2, -1},
			{size}, {0, size}, {3, 5, size}, {size, 0}, {size, 3, 5}, {last, size}, {size, last}, {size, size + 1}, {-1, size}, {size, -1},
			{0, 0}, {last, last}, {0, 3, 3}, {3, 3, 5}, {0, 3, 3, 5}, {0, 0, 1}, {1, last, last},
			{1, 0}, {last, 0}, {5, 3}, {0, 5, 3}, {5, 3, 4}, {3, 5, 4}, {5, 4, 3}, {1, 2, 1},
			{greatest}, {least}, {0, greatest}, {least, 0}, {greatest, least}, {least, greatest}, {greatest, 0}, {0, least}, {greatest, greatest}, {least, least},
		} {
			checkSketchOk(t, sketchOf(size, wrong...), false)
		}
	}
	// What is too much for one Size is right for the next.
	checkSketchOk(t, sketchOf(8, 8), false)
	checkSketchOk(t, sketchOf(9, 8), true)
	checkSketchOk(t, sketchOf(511, 511), false)
	checkSketchOk(t, sketchOf(512, 511), true)
	checkSketchOk(t, sketchOf(513, 511), false)
}

func TestNewSketch(t *testing.T) {
	for size := int64(-20); size < 1100; size++ {
		checkNewSketch(t, size, 8 <= size && size <= 512)
		if s, is := impl.NewSketch(size); is != impl.SketchOk(s) {
			t.Errorf("NewSketch(%d) is %v, and SketchOk not", size, is)
		}
	}
	for _, size := range outsideSizes() {
		checkNewSketch(t, size, false)
	}
	for _, key := range []string{"", ".", "k", "h/a"} {
		for _, size := range []int64{8, 64, 512} {
			s, _ := impl.NewSketch(size)
			checkPerhaps(t, s, key, false)
		}
	}
}

func TestMarks(t *testing.T) {
	checkMarks(t, 8, "", 1, 2, 6)
	checkMarks(t, 9, "", 0, 2, 6)
	checkMarks(t, 10, "", 4, 8, 9)
	checkMarks(t, 64, "", 9, 22, 26)
	checkMarks(t, 100, "", 9, 18, 54)
	checkMarks(t, 511, "", 9, 162, 428)
	checkMarks(t, 512, "", 9, 22, 90)
	checkMarks(t, 8, "k", 5, 6, 7)
	checkMarks(t, 9, "k", 0, 8)
	checkMarks(t, 64, "k", 22, 23, 29)
	checkMarks(t, 511, "k", 223, 275, 299)
	checkMarks(t, 512, "k", 29, 150, 151)
	checkMarks(t, 8, "h/a", 4, 6)
	checkMarks(t, 10, "h/a", 4, 6)
	checkMarks(t, 100, "h/a", 34, 84, 96)
	checkMarks(t, 512, "h/a", 204, 270, 308)
	checkMarks(t, 8, "depot", 3, 4, 6)
	checkMarks(t, 512, "depot", 166, 195, 460)
	checkMarks(t, 512, "\x00", 17, 44, 427)
	checkMarks(t, 512, "\xff", 238, 282, 299)
	checkMarks(t, 8, strings.Repeat("\xff", 200), 1, 6)
	checkMarks(t, 512, strings.Repeat("\xff", 200), 158, 465, 478)
	checkMarks(t, 100, strings.Repeat("a", 1000), 6, 20, 46)
	checkMarks(t, 512, strings.Repeat("a", 1000), 338, 430, 468)
}

// Of a key that ends in a . two of the three texts are those of the key without it.
func TestMarksOfKeysThatEndInADot(t *testing.T) {
	checkMarks(t, 8, ".", 1, 2, 6)
	checkMarks(t, 8, "..", 0, 1, 6)
	checkMarks(t, 8, "...", 0, 1, 2)
	checkMarks(t, 9, ".", 2, 6)
	checkMarks(t, 64, ".", 17, 22, 26)
	checkMarks(t, 64, "..", 16, 17, 22)
	checkMarks(t, 512, "...", 17, 272, 402)
	checkMarks(t, 8, "a", 5, 7)
	checkMarks(t, 8, "a.", 0, 5, 7)
	checkMarks(t, 8, "a..", 0, 1, 5)
	checkMarks(t, 512, "a", 61, 95, 141)
	checkMarks(t, 512, "a.", 61, 95, 344)
	checkMarks(t, 512, "a..", 61, 344, 409)
	checkMarks(t, 512, "k.", 29, 150, 248)
	for _, key := range []string{"", "a", "k", "h/a", ".", "x y"} {
		for _, size := range []int64{8, 64, 100, 512} {
			for dots := range 5 {
				text := key + strings.Repeat(".", dots)
				for behind := range 3 {
					if number := impl.Hash(text+strings.Repeat(".", behind)) % size; !slices.Contains(impl.Marks(size, text), number) {
						t.Errorf("Marks(%d, %q) lack %d", size, text, number)
					}
				}
			}
		}
	}
}

// In each order in which the three may come, and where two and all of them are alike.
func TestMarksInEveryOrder(t *testing.T) {
	for _, told := range []struct {
		size int64
		key  string
		raw  [3]int64
		want []int64
	}{
		{8, "", [3]int64{1, 2, 6}, []int64{1, 2, 6}},
		{8, "aa", [3]int64{2, 6, 4}, []int64{2, 4, 6}},
		{8, "ab", [3]int64{3, 1, 4}, []int64{1, 3, 4}},
		{8, ".", [3]int64{2, 6, 1}, []int64{1, 2, 6}},
		{8, "k", [3]int64{7, 5, 6}, []int64{5, 6, 7}},
		{8, "/", [3]int64{3, 1, 0}, []int64{0, 1, 3}},
		{8, "a/", [3]int64{0, 0, 7}, []int64{0, 7}},
		{8, "h", [3]int64{4, 4, 0}, []int64{0, 4}},
		{8, "a", [3]int64{5, 7, 5}, []int64{5, 7}},
		{8, "bk", [3]int64{7, 4, 7}, []int64{4, 7}},
		{8, "ak", [3]int64{4, 5, 5}, []int64{4, 5}},
		{8, "hk", [3]int64{1, 0, 0}, []int64{0, 1}},
		{8, "/b", [3]int64{5, 5, 5}, []int64{5}},
		{64, "a", [3]int64{13, 31, 61}, []int64{13, 31, 61}},
		{64, "b", [3]int64{14, 50, 44}, []int64{14, 44, 50}},
		{64, "k.", [3]int64{29, 22, 56}, []int64{22, 29, 56}},
		{64, "/", [3]int64{27, 41, 0}, []int64{0, 27, 41}},
		{64, "bb", [3]int64{38, 9, 29}, []int64{9, 29, 38}},
		{64, "aa", [3]int64{18, 6, 4}, []int64{4, 6, 18}},
		{64, "/a0", [3]int64{12, 12, 52}, []int64{12, 52}},
		{64, "/b", [3]int64{29, 29, 21}, []int64{21, 29}},
		{64, ".a.", [3]int64{26, 60, 26}, []int64{26, 60}},
		{64, "bka", [3]int64{39, 16, 39}, []int64{16, 39}},
		{64, "/00", [3]int64{40, 63, 63}, []int64{40, 63}},
		{64, "kh/", [3]int64{37, 2, 2}, []int64{2, 37}},
		{64, "/b.a", [3]int64{8, 8, 8}, []int64{8}},
		{512, "ba", [3]int64{37, 246, 430}, []int64{37, 246, 430}},
		{512, "b", [3]int64{142, 498, 172}, []int64{142, 172, 498}},
		{512, "ab", [3]int64{147, 25, 500}, []int64{25, 147, 500}},
		{512, "ah", [3]int64{153, 396, 143}, []int64{143, 153, 396}},
		{512, "b/", [3]int64{499, 63, 497}, []int64{63, 497, 499}},
		{512, "a", [3]int64{141, 95, 61}, []int64{61, 95, 141}},
		{512, "a00kh", [3]int64{268, 268, 508}, []int64{268, 508}},
		{512, "h0h", [3]int64{168, 168, 1}, []int64{1, 168}},
		{512, "ahk0", [3]int64{153, 174, 153}, []int64{153, 174}},
		{512, "akhh", [3]int64{358, 6, 358}, []int64{6, 358}},
		{512, "b.h/", [3]int64{209, 350, 350}, []int64{209, 350}},
		{512, "bb0b.", [3]int64{448, 372, 372}, []int64{372, 448}},
		// With the least and the greatest number of all.
		{512, "k//", [3]int64{42, 250, 0}, []int64{0, 42, 250}},
		{512, "0b", [3]int64{368, 204, 511}, []int64{204, 368, 511}},
	} {
		checkMarks(t, told.size, told.key, told.want...)
		if raw := rawMarks(told.size, told.key); !slices.Equal(raw, told.raw[:]) {
			t.Errorf("size %d, key %q: %v, not %v", told.size, told.key, raw, told.raw)
		}
	}
}

func TestMarksBySize(t *testing.T) {
	keys := []string{"", ".", "k", "h/a", "a..", "\xff", strings.Repeat("x", 300)}
	for size := int64(-20); size < 1100; size++ {
		for _, key := range keys {
			checkMarks(t, size, key, plainMarks(size, key)...)
			if count := len(impl.Marks(size, key)); (count > 0) != (8 <= size && size <= 512) || count > 3 {
				t.Errorf("Marks(%d, %.20q): %d", size, key, count)
			}
		}
	}
	for _, size := range outsideSizes() {
		for _, key := range keys {
			checkMarks(t, size, key)
		}
	}
}

func TestMarked(t *testing.T) {
	// The Marks of k are 22, 23 and 29, those of an empty key 9, 22 and 26.
	none := sketchOf(64)
	k := sketchOf(64, 22, 23, 29)
	checkMarked(t, none, "k", k)
	checkMarked(t, impl.Sketch{Size: 64, Bits: []int64{}}, "k", k)
	checkMarked(t, k, "k", k)
	checkMarked(t, k, "", sketchOf(64, 9, 22, 23, 26, 29))
	checkMarked(t, sketchOf(64, 9, 22, 26), "k", sketchOf(64, 9, 22, 23, 26, 29))
	// None of them is set: others stand ahead, between and behind.
	checkMarked(t, sketchOf(64, 0), "k", sketchOf(64, 0, 22, 23, 29))
	checkMarked(t, sketchOf(64, 0, 21), "k", sketchOf(64, 0, 21, 22, 23, 29))
	checkMarked(t, sketchOf(64, 24), "k", sketchOf(64, 22, 23, 24, 29))
	checkMarked(t, sketchOf(64, 24, 28), "k", sketchOf(64, 22, 23, 24, 28, 29))
	checkMarked(t, sketchOf(64, 30), "k", sketchOf(64, 22, 23, 29, 30))
	checkMarked(t, sketchOf(64, 30, 63), "k", sketchOf(64, 22, 23, 29, 30, 63))
	checkMarked(t, sketchOf(64, 0, 25, 63), "k", sketchOf(64, 0, 22, 23, 25, 29, 63))
	// Some are set: the first, the middle, the last one, and two of them.
	checkMarked(t, sketchOf(64, 22), "k", k)
	checkMarked(t, sketchOf(64, 23), "k", k)
	checkMarked(t, sketchOf(64, 29), "k", k)
	checkMarked(t, sketchOf(64, 22, 23), "k", k)
	checkMarked(t, sketchOf(64, 22, 29), "k", k)
	checkMarked(t, sketchOf(64, 23, 29), "k", k)
	checkMarked(t, sketchOf(64, 3, 22, 27), "k", sketchOf(64, 3, 22, 23, 27, 29))
	checkMarked(t, sketchOf(64, 23, 29, 31), "k", sketchOf(64, 22, 23, 29, 31))
	checkMarked(t, sketchOf(64, 1, 2, 29), "k", sketchOf(64, 1, 2, 22, 23, 29))
	// All are.
	checkMarked(t, sketchOf(64, 0, 22, 23, 29), "k", sketchOf(64, 0, 22, 23, 29))
	checkMarked(t, sketchOf(64, 22, 23, 27, 29), "k", sketchOf(64, 22, 23, 27, 29))
	checkMarked(t, sketchOf(64, 22, 23, 29, 63), "k", sketchOf(64, 22, 23, 29, 63))
	for _, size := range []int64{8, 9, 64, 511, 512} {
		for _, key := range []string{"", "k", "a.", "/b"} {
			checkMarked(t, fullSketch(size), key, fullSketch(size))
			checkMarked(t, sketchOf(size), key, sketchOf(size, plainMarks(size, key)...))
		}
	}
}

func TestMarkedAtTheEnds(t *testing.T) {
	// The Marks of a. are 0, 5 and 7 of 8, those of k 5, 6 and 7; of 512 those of k// have 0 and those of 0b have 511.
	checkMarked(t, sketchOf(8), "a.", sketchOf(8, 0, 5, 7))
	checkMarked(t, sketchOf(8, 1, 6), "a.", sketchOf(8, 0, 1, 5, 6, 7))
	checkMarked(t, sketchOf(8, 0), "k", sketchOf(8, 0, 5, 6, 7))
	checkMarked(t, sketchOf(8, 0, 1, 2, 3, 4), "k", fullSketch(8))
	checkMarked(t, sketchOf(8, 7), "/", sketchOf(8, 0, 1, 3, 7))
	checkMarked(t, sketchOf(512, 511), "k//", sketchOf(512, 0, 42, 250, 511))
	checkMarked(t, sketchOf(512, 0), "0b", sketchOf(512, 0, 204, 368, 511))
	checkMarked(t, sketchOf(512, 0, 1, 510, 511), "", sketchOf(512, 0, 1, 9, 22, 90, 510, 511))
	// Two and all three of the Marks are one number.
	checkMarked(t, sketchOf(8), "a", sketchOf(8, 5, 7))
	checkMarked(t, sketchOf(8, 6), "a", sketchOf(8, 5, 6, 7))
	checkMarked(t, sketchOf(8), "/b", sketchOf(8, 5))
	checkMarked(t, sketchOf(8, 5), "/b", sketchOf(8, 5))
	checkMarked(t, sketchOf(8, 4, 6), "/b", sketchOf(8, 4, 5, 6))
}

func TestPerhaps(t *testing.T) {
	checkPerhaps(t, sketchOf(64), "k", false)
	checkPerhaps(t, impl.Sketch{Size: 64, Bits: []int64{}}, "k", false)
	checkPerhaps(t, sketchOf(64, 22, 23, 29), "k", true)
	checkPerhaps(t, sketchOf(64, 22, 23, 29), "", false)
	checkPerhaps(t, sketchOf(64, 9, 22, 26), "", true)
	checkPerhaps(t, sketchOf(64, 9, 22, 26), "k", false)
	checkPerhaps(t, sketchOf(64, 9, 22, 23, 26, 29), "k", true)
	checkPerhaps(t, sketchOf(64, 9, 22, 23, 26, 29), "", true)
	// What stands ahead, between and behind does not matter.
	checkPerhaps(t, sketchOf(64, 0, 22, 23, 29), "k", true)
	checkPerhaps(t, sketchOf(64, 22, 23, 27, 29), "k", true)
	checkPerhaps(t, sketchOf(64, 22, 23, 29, 63), "k", true)
	checkPerhaps(t, sketchOf(64, 21, 24, 28, 30), "k", false)
	// One is missing, or two are.
	for _, numbers := range [][]int64{{22}, {23}, {29}, {22, 23}, {22, 29}, {23, 29}, {0, 22, 23}, {22, 23, 28, 30}, {21, 23, 29}, {23, 29, 63}, {22, 24, 29}} {
		checkPerhaps(t, sketchOf(64, numbers...), "k", false)
	}
	// Numbers that others have set are enough.
	checkPerhaps(t, sketchOf(8, 5, 6, 7), "k", true)
	checkPerhaps(t, sketchOf(8, 5, 6, 7), "a", true)
	checkPerhaps(t, sketchOf(8, 5, 6, 7), "/b", true)
	checkPerhaps(t, sketchOf(8, 5, 6, 7), "a.", false)
	checkPerhaps(t, sketchOf(8, 5), "/b", true)
	checkPerhaps(t, sketchOf(8, 0, 1, 2, 3, 4, 6, 7), "/b", false)
	checkPerhaps(t, sketchOf(8, 5), "a", false)
	checkPerhaps(t, sketchOf(8, 7), "a", false)
	checkPerhaps(t, sketchOf(8, 5, 7), "a", true)
	checkPerhaps(t, sketchOf(512, 0, 42, 250), "k//", true)
	checkPerhaps(t, sketchOf(512, 42, 250), "k//", false)
	checkPerhaps(t, sketchOf(512, 204, 368, 511), "0b", true)
	checkPerhaps(t, sketchOf(512, 204, 368), "0b", false)
}

// For each key: all Marks, all but one of them, all numbers, all but one of the Marks.
func TestPerhapsOfAllButOne(t *testing.T) {
	keys := append([]string{"", ".", "k", "a", "/b", "h/a", "a.."}, oddTexts...)
	for _, size := range []int64{8, 9, 64, 100, 511, 512} {
		for _, key := range keys {
			marks, full := plainMarks(size, key), fullSketch(size)
			checkPerhaps(t, sketchOf(size), key, false)
			checkPerhaps(t, sketchOf(size, marks...), key, true)
			checkPerhaps(t, full, key, true)
			for _, mark := range marks {
				checkPerhaps(t, sketchOf(size, mark), key, len(marks) == 1)
				checkPerhaps(t, sketchOf(size, lacking(marks, mark)...), key, false)
				checkPerhaps(t, sketchOf(size, lacking(full.Bits, mark)...), key, false)
				checkMarked(t, sketchOf(size, lacking(marks, mark)...), key, sketchOf(size, marks...))
				checkMarked(t, sketchOf(size, lacking(full.Bits, mark)...), key, full)
			}
			others := lackingAll(full.Bits, marks)
			checkPerhaps(t, sketchOf(size, others...), key, false)
			checkMarked(t, sketchOf(size, others...), key, full)
		}
	}
}

func TestBoth(t *testing.T) {
	none, full := sketchOf(64), fullSketch(64)
	a := sketchOf(64, 3, 10, 20)
	// No number in common.
	checkBoth(t, a, sketchOf(64, 30, 40), sketchOf(64, 3, 10, 20, 30, 40))
	checkBoth(t, a, sketchOf(64, 0, 2), sketchOf(64, 0, 2, 3, 10, 20))
	checkBoth(t, a, sketchOf(64, 5, 15), sketchOf(64, 3, 5, 10, 15, 20))
	checkBoth(t, a, sketchOf(64, 0, 11, 63), sketchOf(64, 0, 3, 10, 11, 20, 63))
	checkBoth(t, a, sketchOf(64, 63), sketchOf(64, 3, 10, 20, 63))
	// Some in common.
	checkBoth(t, a, sketchOf(64, 3), a)
	checkBoth(t, a, sketchOf(64, 20), a)
	checkBoth(t, a, sketchOf(64, 3, 4, 21), sketchOf(64, 3, 4, 10, 20, 21))
	checkBoth(t, a, sketchOf(64, 1, 10, 63), sketchOf(64, 1, 3, 10, 20, 63))
	checkBoth(t, a, sketchOf(64, 10, 20, 30), sketchOf(64, 3, 10, 20, 30))
	// All in common.
	checkBoth(t, a, a, a)
	checkBoth(t, a, sketchOf(64, 3, 10, 20), a)
	checkBoth(t, full, a, full)
	checkBoth(t, a, full, full)
	checkBoth(t, full, full, full)
	checkBoth(t, none, none, none)
	checkBoth(t, none, a, a)
	checkBoth(t, a, none, a)
	checkBoth(t, a, impl.Sketch{Size: 64, Bits: []int64{}}, a)
	checkBoth(t, impl.Sketch{Size: 64, Bits: []int64{}}, none, none)
	checkBoth(t, none, full, full)
	checkBoth(t, sketchOf(8, 0), sketchOf(8, 7), sketchOf(8, 0, 7))
	checkBoth(t, sketchOf(8, 7), sketchOf(8, 0), sketchOf(8, 0, 7))
	checkBoth(t, sketchOf(512, 511), sketchOf(512, 0), sketchOf(512, 0, 511))
	checkBoth(t, sketchOf(512, 0, 511), sketchOf(512, 1, 510), sketchOf(512, 0, 1, 510, 511))
	for _, size := range []int64{8, 9, 64, 511, 512} {
		var even, odd []int64
		for number := range size {
			if number%2 == 0 {
				even = append(even, number)
			} else {
				odd = append(odd, number)
			}
		}
		checkBoth(t, sketchOf(size, even...), sketchOf(size, odd...), fullSketch(size))
		checkBoth(t, sketchOf(size, odd...), sketchOf(size, even...), fullSketch(size))
		checkBoth(t, sketchOf(size, risingFrom(0, 4)...), sketchOf(size, risingFrom(4, int(size)-4)...), fullSketch(size))
		checkBoth(t, sketchOf(size), sketchOf(size), sketchOf(size))
	}
}

func TestBothOfUnlikeSizes(t *testing.T) {
	for _, sizes := range [][2]int64{{8, 9}, {8, 512}, {63, 64}, {64, 65}, {64, 128}, {511, 512}, {7, 8}, {512, 513}, {7, 513}, {8, 0}, {8, -8}, {8, 8 + 1<<32}} {
		a, b := sizes[0], sizes[1]
		for _, numbers := range [][2][]int64{{nil, nil}, {{0, 3}, {0, 3}}, {{1}, {2}}, {nil, {5}}, {{5}, nil}} {
			checkNotBoth(t, sketchOf(a, numbers[0]...), sketchOf(b, numbers[1]...))
			checkNotBoth(t, sketchOf(b, numbers[0]...), sketchOf(a, numbers[1]...))
		}
	}
	checkNotBoth(t, impl.Sketch{}, impl.Sketch{})
	checkNotBoth(t, sketchOf(7), sketchOf(7))
	checkNotBoth(t, sketchOf(513), sketchOf(513))
	checkNotBoth(t, sketchOf(greatest), sketchOf(greatest))
	checkNotBoth(t, sketchOf(least), sketchOf(least))
}

func TestWrongSketches(t *testing.T) {
	for _, wrong := range wrongSketches() {
		checkSketchOk(t, wrong, false)
		for _, key := range []string{"", "k", "a.", "/b"} {
			checkMarked(t, wrong, key, impl.Sketch{})
			checkPerhaps(t, wrong, key, false)
		}
		right := []impl.Sketch{sketchOf(8), sketchOf(8, 0, 7), fullSketch(512)}
		if isSketchSize(wrong.Size) {
			right = append(right, sketchOf(wrong.Size), sketchOf(wrong.Size, 3), fullSketch(wrong.Size))
		}
		for _, other := range right {
			checkNotBoth(t, wrong, other)
			checkNotBoth(t, other, wrong)
		}
		checkNotBoth(t, wrong, wrong)
	}
}

// holdsAll is whether nothing that was set in the first is gone in the second.
func holdsAll(before, after impl.Sketch) bool {
	return before.Size == after.Size && len(lackingAll(before.Bits, after.Bits)) == 0
}

// What was Marked is Perhaps there, behind further keys too, and nothing that was set goes.
func TestWhatWasMarkedIsPerhapsThere(t *testing.T) {
	source := rand.New(rand.NewSource(23))
	surelyNot := 0
	for range 250 {
		size := drawnSize(source)
		s, keys := drawnSketch(source, size), drawnKeys(source, 1+source.Intn(12))
		if source.Intn(2) == 0 {
			s, _ = impl.NewSketch(size)
		}
		first := s
		for at, key := range keys {
			checkAllOfSketch(t, s, key)
			if !impl.Perhaps(s, key) {
				surelyNot++
			}
			marked := impl.Marked(s, key)
			if !impl.SketchOk(marked) || !holdsAll(s, marked) || !holdsAll(first, marked) || !sameSketch(impl.Marked(marked, key), marked) {
				t.Fatalf("Marked(%s, %q): %s", toldSketch(s), key, toldSketch(marked))
			}
			if impl.Perhaps(s, key) != sameSketch(s, marked) {
				t.Fatalf("Perhaps(%s, %q), and Marked %s", toldSketch(s), key, toldSketch(marked))
			}
			s = marked
			for _, known := range keys[:at+1] {
				checkPerhaps(t, s, known, true)
			}
		}
		if t.Failed() {
			t.FailNow()
		}
	}
	if surelyNot < 300 {
		t.Errorf("only %d keys were surely not there", surelyNot)
	}
}

// What was Marked is Perhaps there in Both with any other one of its Size.
func TestWhatWasMarkedIsInBoth(t *testing.T) {
	source := rand.New(rand.NewSource(24))
	for range 400 {
		size := drawnSize(source)
		a, b := drawnSketch(source, size), drawnSketch(source, size)
		inA, inB := drawnKeys(source, 1+source.Intn(5)), drawnKeys(source, source.Intn(5))
		for _, key := range inA {
			a = impl.Marked(a, key)
		}
		for _, key := range inB {
			b = impl.Marked(b, key)
		}
		both, is := impl.Both(a, b)
		checkBothAsTold(t, a, b)
		checkBoth(t, b, a, both)
		checkBoth(t, a, both, both)
		checkBoth(t, both, b, both)
		if !is || !impl.SketchOk(both) || !holdsAll(a, both) || !holdsAll(b, both) {
			t.Fatalf("Both(%s, %s): %s, %v", toldSketch(a), toldSketch(b), toldSketch(both), is)
		}
		for _, key := range append(slices.Clone(inA), inB...) {
			checkPerhaps(t, both, key, true)
			checkMarked(t, both, key, both)
		}
		// A key Marked ahead of Both or behind it is one and the same.
		key := drawnKeys(source, 1)[0]
		checkBoth(t, impl.Marked(a, key), b, impl.Marked(both, key))
		checkBoth(t, a, impl.Marked(b, key), impl.Marked(both, key))
		other := drawnSketch(source, size+1)
		checkBothAsTold(t, a, other)
		checkBothAsTold(t, other, b)
		if t.Failed() {
			t.FailNow()
		}
	}
}

// Every Sketch of the least Size, and each two of some of them.
func TestAllSketchesOfEight(t *testing.T) {
	var all []impl.Sketch
	for told := range 256 {
		s := impl.Sketch{Size: 8}
		for number := range int64(8) {
			if told>>number%2 == 1 {
				s.Bits = append(s.Bits, number)
			}
		}
		all = append(all, s)
	}
	keys := []string{"", ".", "/", "k", "aa", "ab", "a/", "h", "a", "bk", "ak", "hk", "/b"}
	for _, a := range all {
		for _, key := range keys {
			checkAllOfSketch(t, a, key)
		}
		for at := 0; at < 256; at += 5 {
			checkBothAsTold(t, a, all[at])
			checkBothAsTold(t, all[at], a)
		}
		checkBothAsTold(t, a, a)
	}
}

func roomySketch(s impl.Sketch) impl.Sketch {
	return impl.Sketch{Size: s.Size, Bits: roomyNumbers(s.Bits)}
}

func TestSketchesStayAndAnswersAreNewMemory(t *testing.T) {
	source := rand.New(rand.NewSource(25))
	list := append(wrongSketches(), sketchOf(64), sketchOf(64, 22, 23, 29), sketchOf(8, 5), fullSketch(8), fullSketch(512))
	for range 300 {
		list = append(list, drawnSketch(source, drawnSize(source)))
	}
	for _, given := range list {
		key, other := drawnKeys(source, 1)[0], impl.Sketch{Size: given.Size}
		if isSketchSize(given.Size) {
			other = drawnSketch(source, given.Size)
		}
		s, o := roomySketch(given), roomySketch(other)
		was, otherWas := slices.Clone(s.Bits[:cap(s.Bits)]), slices.Clone(o.Bits[:cap(o.Bits)])
		impl.SketchOk(s)
		impl.Perhaps(s, key)
		both, _ := impl.Both(s, o)
		back, _ := impl.Both(o, s)
		self, _ := impl.Both(s, s)
		empty, _ := impl.NewSketch(s.Size)
		again, _ := impl.NewSketch(s.Size)
		answers := [][]int64{both.Bits, back.Bits, self.Bits, empty.Bits, again.Bits, impl.Marked(s, key).Bits, impl.Marked(s, key).Bits, impl.Marks(s.Size, key), impl.Marks(s.Size, key), s.Bits, o.Bits}
		for i, numbers := range answers {
			for j := range i {
				if numbersShare(numbers, answers[j]) {
					t.Fatalf("lists %d and %d of %s share memory", i, j, toldSketch(s))
				}
			}
		}
		for _, i := range []int{0, 2, 3, 5, 7} {
			for at := range answers[i][:cap(answers[i])] {
				answers[i][:cap(answers[i])][at] = 77
			}
		}
		wanted, _ := plainBoth(other, given)
		if !slices.Equal(answers[1], wanted.Bits) || len(answers[4]) != 0 || !slices.Equal(answers[6], plainMarked(given, key).Bits) || !slices.Equal(answers[8], plainMarks(given.Size, key)) {
			t.Fatalf("of %s the answers became %.300s", toldSketch(given), fmt.Sprint(answers[:9]))
		}
		if !slices.Equal(s.Bits[:cap(s.Bits)], was) || !slices.Equal(o.Bits[:cap(o.Bits)], otherWas) {
			t.Fatalf("%.200s became %.200s, or %.200s %.200s", fmt.Sprint(was), fmt.Sprint(s.Bits[:cap(s.Bits)]), fmt.Sprint(otherWas), fmt.Sprint(o.Bits[:cap(o.Bits)]))
		}
		if s.Size != given.Size || o.Size != other.Size {
			t.Fatalf("%s became %s", toldSketch(given), toldSketch(s))
		}
	}
}

// Marked again and again, a Sketch that was answered is still as it was.
func TestMarkedDoesNotWriteIntoWhatWasAnswered(t *testing.T) {
	source := rand.New(rand.NewSource(26))
	s, _ := impl.NewSketch(512)
	var told []impl.Sketch
	var were [][]int64
	for _, key := range drawnKeys(source, 200) {
		told, were = append(told, s), append(were, slices.Clone(s.Bits))
		impl.Marked(s, key+"x")
		s = impl.Marked(s, key)
	}
	for i, one := range told {
		if one.Size != 512 || !slices.Equal(one.Bits, were[i]) {
			t.Fatalf("Sketch %d became %s", i, toldSketch(one))
		}
	}
}

// Each function answers, whatever it is given.
func TestSketchFunctionsAnswerAtEveryArgument(t *testing.T) {
	numbers := []int64{least, least + 1, -1 << 32, -1, 0, 1, 6, 7, 8, 9, 510, 511, 512, 513, 1 << 32, 1<<32 + 8, greatest - 1, greatest}
	var some []impl.Sketch
	for _, size := range numbers {
		checkNewSketch(t, size, isSketchSize(size))
		some = append(some, sketchOf(size), sketchOf(size, size-1))
		for _, a := range numbers {
			checkAllOfSketch(t, sketchOf(size, a), "k")
			for _, b := range numbers {
				checkAllOfSketch(t, sketchOf(size, a, b), "a.")
				checkBothAsTold(t, sketchOf(size, a), sketchOf(size, b))
				checkBothAsTold(t, sketchOf(a, 3, size), sketchOf(b, size))
				for _, c := range numbers {
					checkSketchOk(t, sketchOf(size, a, b, c), plainSketchOk(sketchOf(size, a, b, c)))
				}
			}
		}
	}
	for _, a := range some {
		for _, b := range some {
			checkBothAsTold(t, a, b)
		}
	}
	for _, key := range append(append(textsOf(".k\x00\xff", 3), oddTexts...), hugeTexts()...) {
		for _, size := range []int64{least, -1, 0, 7, 8, 9, 511, 512, 513, greatest} {
			checkMarks(t, size, key, plainMarks(size, key)...)
		}
		for _, s := range []impl.Sketch{{}, sketchOf(8), sketchOf(512, 0, 511), fullSketch(64), sketchOf(8, 8)} {
			checkAllOfSketch(t, s, key)
		}
	}
}
