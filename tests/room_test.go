package tests

import (
	"fmt"
	"math/big"
	"math/bits"
	"math/rand"
	"slices"
	"strings"
	"testing"
	"unsafe"

	"loop.example/g00207/impl"
)

func traceOf(numbers ...int64) []int64 { return numbers }

// risingFrom are so many unlike numbers.
func risingFrom(first int64, count int) []int64 {
	list := make([]int64, count)
	for i := range list {
		list[i] = first + int64(i)
	}
	return list
}

// turningThrough goes through the numbers below many again and again.
func turningThrough(many int64, count int) []int64 {
	list := make([]int64, count)
	for i := range list {
		list[i] = int64(i) % many
	}
	return list
}

func isTrace(trace []int64) bool {
	return len(trace) <= 60 && !slices.ContainsFunc(trace, func(n int64) bool { return n < 0 || 20 < n })
}

func isRoom(room int64) bool { return 0 < room && room < 11 }

// plainRecent tells Recent once more: the unlike numbers from the end on, the first of them.
func plainRecent(trace []int64, room int64) []int64 {
	if !isTrace(trace) || !isRoom(room) {
		return nil
	}
	var recent []int64
	for i := len(trace) - 1; i >= 0 && int64(len(recent)) < room; i-- {
		if !slices.Contains(recent, trace[i]) {
			recent = append(recent, trace[i])
		}
	}
	return recent
}

func plainMisses(trace []int64, room int64) int64 {
	if !isTrace(trace) || !isRoom(room) {
		return -1
	}
	misses := int64(0)
	for i, number := range trace {
		if !slices.Contains(plainRecent(trace[:i], room), number) {
			misses++
		}
	}
	return misses
}

func plainDistance(trace []int64, at int64) int64 {
	if !isTrace(trace) || at < 0 || int64(len(trace)) <= at {
		return -1
	}
	last := -1
	for i := range at {
		if trace[i] == trace[at] {
			last = int(i)
		}
	}
	if last < 0 {
		return 0
	}
	unlike := map[int64]int{}
	for _, number := range trace[last+1 : at+1] {
		unlike[number]++
	}
	return int64(len(unlike))
}

// plainBest tells Best once more, without a heap, with the least of those that come no more.
func plainBest(trace []int64, room int64) int64 {
	if !isTrace(trace) || !isRoom(room) {
		return -1
	}
	shelf := map[int64]int{}
	misses := int64(0)
	for i, number := range trace {
		if _, is := shelf[number]; is {
			continue
		}
		misses++
		if int64(len(shelf)) == room {
			goes, latest := int64(-1), -1
			for held := range int64(21) {
				if _, is := shelf[held]; !is {
					continue
				}
				next := slices.Index(trace[i:], held)
				if next < 0 {
					next = 1000
				}
				if next > latest {
					goes, latest = held, next
				}
			}
			delete(shelf, goes)
		}
		shelf[number] = 1
	}
	return misses
}

// leastMisses goes through all ways of dropping, a shelf being a set of bits; the trace and the room are right.
func leastMisses(trace []int64, room int64) int64 {
	shelves := map[uint32]int64{0: 0}
	for _, number := range trace {
		next := map[uint32]int64{}
		reach := func(shelf uint32, misses int64) {
			if known, is := next[shelf]; !is || misses < known {
				next[shelf] = misses
			}
		}
		bit := uint32(1) << number
		for shelf, misses := range shelves {
			switch {
			case shelf&bit != 0:
				reach(shelf, misses)
			case bits.OnesCount32(shelf) < int(room):
				reach(shelf|bit, misses+1)
			default:
				for rest := shelf; rest != 0; rest &= rest - 1 {
					reach(shelf&^(rest&-rest)|bit, misses+1)
				}
			}
		}
		shelves = next
	}
	fewest := int64(1000)
	for _, misses := range shelves {
		fewest = min(fewest, misses)
	}
	return fewest
}

// mixedTraces are right, of few and of many unlike numbers, short and long; the same in each run.
func mixedTraces(count int) [][]int64 {
	source := rand.New(rand.NewSource(15))
	traces := make([][]int64, count)
	for i := range traces {
		many := 1 + source.Intn(21)
		for range source.Intn(61) {
			traces[i] = append(traces[i], int64(source.Intn(many)))
		}
		// A number that came not long ago comes again more often than others.
		for at := 4; at < len(traces[i]); at++ {
			if source.Intn(3) == 0 {
				traces[i][at] = traces[i][at-1-source.Intn(4)]
			}
		}
	}
	return traces
}

// shortTraces are all of at most most numbers below many.
func shortTraces(many int64, most int) [][]int64 {
	traces := [][]int64{{}}
	for from, long := 0, 0; long < most; long++ {
		end := len(traces)
		for _, trace := range traces[from:end] {
			for number := range many {
				traces = append(traces, append(slices.Clone(trace), number))
			}
		}
		from = end
	}
	return traces
}

// wrongTraces are too long, or have one that is no number of a trace.
func wrongTraces() [][]int64 {
	traces := [][]int64{make([]int64, 61), make([]int64, 62), make([]int64, 1000), make([]int64, 100000), turningThrough(21, 61), turningThrough(3, 61)}
	for _, wrong := range []int64{-1, 21, -2, 22, 100, -100, 1 << 8, 1 << 16, 1 << 31, 1 << 32, 1<<32 + 1, -1 << 32, 1 << 62, greatest, greatest - 1, least, least + 1} {
		traces = append(traces, traceOf(wrong), traceOf(wrong, 1), traceOf(1, wrong), traceOf(1, wrong, 1), traceOf(1, 2, wrong, 3, 4), traceOf(wrong, wrong))
		for _, at := range []int{0, 30, 59} {
			long := turningThrough(21, 60)
			long[at] = wrong
			traces = append(traces, long)
		}
		traces = append(traces, append(turningThrough(4, 60), wrong))
	}
	return traces
}

var wrongRooms = []int64{0, -1, 11, 12, 20, 60, -10, 100, 1 << 32, 1<<32 + 1, 1<<32 + 10, -1 << 32, greatest, greatest - 1, least, least + 1}

func checkRecent(t *testing.T, trace []int64, room int64, want []int64, misses int64) {
	t.Helper()
	if got := impl.Recent(trace, room); !slices.Equal(got, want) {
		t.Errorf("Recent(%.200q, %d): %v, not %v", fmt.Sprint(trace), room, got, want)
	}
	if got := impl.Misses(trace, room); got != misses {
		t.Errorf("Misses(%.200q, %d): %d, not %d", fmt.Sprint(trace), room, got, misses)
	}
}

func checkBest(t *testing.T, trace []int64, room int64, want int64) {
	t.Helper()
	if got := impl.Best(trace, room); got != want {
		t.Errorf("Best(%.200q, %d): %d, not %d", fmt.Sprint(trace), room, got, want)
	}
}

func checkDistance(t *testing.T, trace []int64, at int64, want int64) {
	t.Helper()
	if got := impl.Distance(trace, at); got != want {
		t.Errorf("Distance(%.200q, %d): %d, not %d", fmt.Sprint(trace), at, got, want)
	}
}

func TestRoomConstants(t *testing.T) {
	if impl.MaxTrace != 60 || impl.MaxQuota != 100000 {
		t.Fatal(impl.MaxTrace, impl.MaxQuota)
	}
}

func TestRecentOfFewUnlikeNumbers(t *testing.T) {
	for room := int64(1); room <= 10; room++ {
		checkRecent(t, nil, room, nil, 0)
		checkRecent(t, traceOf(), room, nil, 0)
		for number := range int64(21) {
			checkRecent(t, traceOf(number), room, traceOf(number), 1)
			checkRecent(t, traceOf(number, number), room, traceOf(number), 1)
			checkRecent(t, slices.Repeat(traceOf(number), 60), room, traceOf(number), 1)
			checkRecent(t, slices.Repeat(traceOf(number), 61), room, nil, -1)
		}
	}
	checkRecent(t, traceOf(0, 20), 1, traceOf(20), 2)
	checkRecent(t, traceOf(0, 20), 2, traceOf(20, 0), 2)
	checkRecent(t, traceOf(20, 0), 10, traceOf(0, 20), 2)
}

func TestRecent(t *testing.T) {
	given := traceOf(1, 2, 3, 1, 4, 2, 1)
	checkRecent(t, given, 1, traceOf(1), 7)
	checkRecent(t, given, 2, traceOf(1, 2), 7)
	checkRecent(t, given, 3, traceOf(1, 2, 4), 5)
	checkRecent(t, given, 4, traceOf(1, 2, 4, 3), 4)
	checkRecent(t, given, 5, traceOf(1, 2, 4, 3), 4)
	// Of 1, 2, 3 the front is 3 and the last one 1.
	for _, c := range []struct {
		trace, want []int64
		misses      int64
	}{
		{traceOf(1, 2, 3, 3), traceOf(3, 2, 1), 3},
		{traceOf(1, 2, 3, 2), traceOf(2, 3, 1), 3},
		{traceOf(1, 2, 3, 1), traceOf(1, 3, 2), 3},
		{traceOf(1, 2, 3, 4), traceOf(4, 3, 2), 4},
		{traceOf(1, 2, 3, 4, 1), traceOf(1, 4, 3), 5},
		{traceOf(1, 2, 3, 4, 1, 2), traceOf(2, 1, 4), 6},
		{traceOf(1, 2, 3, 3, 4), traceOf(4, 3, 2), 4},
		{traceOf(1, 2, 3, 2, 4), traceOf(4, 2, 3), 4},
		{traceOf(1, 2, 3, 1, 4), traceOf(4, 1, 3), 4},
		{traceOf(1, 2, 3, 1, 4, 2), traceOf(2, 4, 1), 5},
		{traceOf(1, 2, 3, 1, 4, 1), traceOf(1, 4, 3), 4},
		{traceOf(1, 2, 3, 1, 4, 3), traceOf(3, 4, 1), 4},
		{traceOf(3, 2, 1, 3, 2, 1, 3), traceOf(3, 1, 2), 3},
		{traceOf(1, 1, 2, 2, 1, 1, 2, 2), traceOf(2, 1), 2},
	} {
		checkRecent(t, c.trace, 3, c.want, c.misses)
	}
}

// As many unlike numbers as there is room, fewer, and more.
func TestRecentByRoom(t *testing.T) {
	for room := 1; room <= 10; room++ {
		for _, count := range []int{room - 1, room, room + 1, 21} {
			rising := risingFrom(0, count)
			back := slices.Clone(rising)
			slices.Reverse(back)
			stay := min(room, count)
			checkRecent(t, rising, int64(room), back[:stay], int64(count))
			checkRecent(t, back, int64(room), rising[:stay], int64(count))
			// Once more in the same order: all are there, or none is.
			misses := int64(count)
			if count > room {
				misses *= 2
			}
			checkRecent(t, slices.Concat(rising, rising), int64(room), back[:stay], misses)
			// Once more in the other order: those that stayed are there.
			checkRecent(t, slices.Concat(rising, back), int64(room), rising[:stay], int64(2*count-stay))
		}
	}
}

func TestRecentByLength(t *testing.T) {
	for _, many := range []int64{1, 2, 5, 10, 11, 21} {
		for count := 55; count < 66; count++ {
			trace := turningThrough(many, count)
			for _, room := range []int64{1, 2, 9, 10} {
				checkRecent(t, trace, room, plainRecent(trace, room), plainMisses(trace, room))
				checkBest(t, trace, room, plainBest(trace, room))
				if (impl.Misses(trace, room) == -1) != (count > 60) || (impl.Best(trace, room) == -1) != (count > 60) || (len(impl.Recent(trace, room)) == 0) != (count > 60) {
					t.Errorf("of %d numbers, with room %d: %v, %d, %d", count, room, impl.Recent(trace, room), impl.Misses(trace, room), impl.Best(trace, room))
				}
			}
		}
	}
}

func TestTracesByTheirNumbers(t *testing.T) {
	for number, right := range map[int64]bool{-1: false, 0: true, 1: true, 19: true, 20: true, 21: false} {
		for _, trace := range [][]int64{{number}, {number, 3, 4}, {3, number, 4}, {3, 4, number}, append(turningThrough(7, 59), number), append(traceOf(number), turningThrough(7, 59)...)} {
			if recent := impl.Recent(trace, 10); (len(recent) > 0) != right || right && !slices.Contains(recent, number) && len(trace) < 11 {
				t.Errorf("Recent(%v, 10): %v", trace, recent)
			}
			if misses, best, distance := impl.Misses(trace, 10), impl.Best(trace, 10), impl.Distance(trace, 0); misses >= 1 != right || best >= 1 != right || distance == 0 != right || min(misses, best, distance) < -1 {
				t.Errorf("of %v: Misses %d, Best %d, Distance %d", trace, misses, best, distance)
			}
		}
	}
}

func TestRoomOfWrongTracesAndRooms(t *testing.T) {
	for _, trace := range wrongTraces() {
		for _, room := range append(risingFrom(1, 10), wrongRooms...) {
			checkRecent(t, trace, room, nil, -1)
			checkBest(t, trace, room, -1)
		}
		for at := range min(len(trace), 70) {
			checkDistance(t, trace, int64(at), -1)
		}
		checkDistance(t, trace, int64(len(trace)-1), -1)
	}
	rights := [][]int64{nil, {}, {0}, {20}, {1, 1}, {1, 2, 3, 1, 4, 2, 1}, turningThrough(21, 60), make([]int64, 60)}
	for _, room := range wrongRooms {
		for _, trace := range rights {
			checkRecent(t, trace, room, nil, -1)
			checkBest(t, trace, room, -1)
		}
	}
	for _, room := range []int64{1, 10} {
		for _, trace := range rights {
			if impl.Misses(trace, room) < 0 || impl.Best(trace, room) < 0 || len(trace) > 0 && len(impl.Recent(trace, room)) == 0 {
				t.Errorf("room %d is not right for %v", room, trace)
			}
		}
	}
}

func TestDistance(t *testing.T) {
	given := traceOf(1, 2, 3, 1, 4, 2, 1)
	for at, want := range []int64{0, 0, 0, 3, 0, 4, 3} {
		checkDistance(t, given, int64(at), want)
	}
	for _, c := range []struct {
		trace []int64
		want  []int64
	}{
		{traceOf(7), traceOf(0)},
		{traceOf(7, 8), traceOf(0, 0)},
		{traceOf(7, 7), traceOf(0, 1)},
		{traceOf(7, 7, 7), traceOf(0, 1, 1)},
		{traceOf(7, 8, 7), traceOf(0, 0, 2)},
		{traceOf(7, 8, 8, 7), traceOf(0, 0, 1, 2)},
		{traceOf(7, 8, 8, 8, 8, 7), traceOf(0, 0, 1, 1, 1, 2)},
		{traceOf(7, 8, 9, 7), traceOf(0, 0, 0, 3)},
		{traceOf(7, 8, 9, 8, 7), traceOf(0, 0, 0, 2, 3)},
		{traceOf(7, 8, 9, 8, 9, 7, 7), traceOf(0, 0, 0, 2, 2, 3, 1)},
		{traceOf(7, 7, 8, 7), traceOf(0, 1, 0, 2)},
		{traceOf(7, 9, 7, 8, 7), traceOf(0, 0, 2, 0, 2)},
		{traceOf(0, 20, 0, 20), traceOf(0, 0, 2, 2)},
		{traceOf(1, 2, 3, 4, 5, 1), traceOf(0, 0, 0, 0, 0, 5)},
		{traceOf(1, 2, 3, 4, 5, 5), traceOf(0, 0, 0, 0, 0, 1)},
	} {
		for at, want := range c.want {
			checkDistance(t, c.trace, int64(at), want)
		}
	}
	long := append(risingFrom(0, 21), risingFrom(0, 21)...)
	for at := range int64(42) {
		checkDistance(t, long, at, at/21*21)
	}
	for at := range int64(60) {
		checkDistance(t, make([]int64, 60), at, min(at, 1))
		checkDistance(t, make([]int64, 61), at, -1)
	}
}

func TestDistanceByPlace(t *testing.T) {
	for _, count := range []int{0, 1, 2, 3, 21, 59, 60} {
		trace := make([]int64, count)
		for at := range int64(count) {
			checkDistance(t, trace, at, min(at, 1))
		}
		for _, at := range []int64{-1, -2, -int64(count), int64(count), int64(count) + 1, 60, 61, -1 << 32, 1 << 32, -1<<32 + 1, 1<<32 + 1, greatest, greatest - 1, least, least + 1} {
			if at < 0 || at >= int64(count) {
				checkDistance(t, trace, at, -1)
			}
		}
	}
	checkDistance(t, nil, 0, -1)
	// What comes behind it does not matter.
	for _, trace := range mixedTraces(100) {
		for at := range trace {
			if impl.Distance(trace, int64(at)) != impl.Distance(trace[:at+1], int64(at)) {
				t.Fatalf("Distance(%v, %d): %d, without those behind it %d", trace, at, impl.Distance(trace, int64(at)), impl.Distance(trace[:at+1], int64(at)))
			}
		}
	}
}

func TestBest(t *testing.T) {
	for _, c := range []struct {
		trace []int64
		room  int64
		want  int64
	}{
		{nil, 1, 0},
		{nil, 10, 0},
		{traceOf(), 3, 0},
		{traceOf(5), 1, 1},
		{traceOf(5, 5, 5), 1, 1},
		{make([]int64, 60), 1, 1},
		{make([]int64, 61), 1, -1},
		{traceOf(1, 2, 3, 1, 4, 2, 1), 2, 5},
		// Nothing has to go.
		{traceOf(1, 2, 1, 2, 2, 1), 2, 2},
		{traceOf(1, 2, 3, 3, 2, 1), 3, 3},
		{turningThrough(10, 60), 10, 10},
		// With room for one, each that is not the one before it is taken.
		{traceOf(1, 2, 1, 2), 1, 4},
		{traceOf(1, 1, 2, 2, 1, 1), 1, 3},
		// Of 1 and 2 the one that comes no more goes, however new it is.
		{traceOf(1, 2, 3, 1, 3), 2, 3},
		{traceOf(2, 1, 3, 1, 3), 2, 3},
		{traceOf(1, 2, 3, 2, 3), 2, 3},
		{traceOf(2, 1, 3, 2, 3), 2, 3},
		{traceOf(1, 2, 3, 4, 1), 2, 4},
		// 2 and 3 come no more, and go when 4 and 5 come; so 1 is there at the end.
		{traceOf(1, 2, 3, 4, 5, 1), 3, 5},
		{traceOf(3, 2, 1, 4, 5, 1, 4, 5), 3, 5},
		{traceOf(1, 2, 3, 4, 5, 6, 4, 5, 6), 3, 6},
		// None comes no more: the one that comes again the latest goes, and is taken anew.
		{traceOf(1, 2, 3, 1, 2), 2, 4},
		{traceOf(1, 2, 3, 2, 1), 2, 4},
		{traceOf(1, 2, 3, 4, 1, 2, 3), 3, 5},
		{traceOf(1, 2, 3, 4, 2, 3, 1), 3, 5},
		{traceOf(1, 2, 3, 4, 3, 1, 2), 3, 5},
		// 3 is dropped for 4 at once and comes again; then it is there.
		{traceOf(1, 2, 3, 4, 1, 2, 3, 3, 3), 3, 5},
		{traceOf(1, 2, 3, 4, 1, 2, 3, 4, 1, 2, 3, 4), 3, 6},
		{traceOf(0, 1, 2, 3, 0, 1, 4, 0, 1, 2, 3, 4), 3, 7},
		{traceOf(0, 1, 2, 3, 0, 1, 4, 0, 1, 2, 3, 4), 4, 6},
		{traceOf(7, 0, 1, 2, 0, 3, 0, 4, 2, 3, 0, 3, 2, 1, 2, 0, 1, 7, 0, 1), 3, 9},
		{traceOf(2, 3, 2, 1, 5, 2, 4, 5, 3, 2, 5, 2), 3, 6},
		// What is held comes later and later again: that is to be minded anew.
		{traceOf(1, 2, 1, 3, 2, 3, 1), 2, 4},
		{traceOf(1, 2, 1, 2, 3, 2, 3, 1), 2, 4},
		{traceOf(1, 2, 3, 1, 1, 4, 2, 3, 4, 1), 3, 5},
	} {
		checkBest(t, c.trace, c.room, c.want)
		if isTrace(c.trace) && leastMisses(c.trace, c.room) != c.want {
			t.Errorf("of %v with room %d: %d would do", c.trace, c.room, leastMisses(c.trace, c.room))
		}
	}
}

func TestRecentMissesMoreThanBest(t *testing.T) {
	for room := int64(2); room <= 10; room++ {
		trace := turningThrough(room+1, 60)
		if misses, best := impl.Misses(trace, room), impl.Best(trace, room); misses != 60 || best != leastMisses(trace, room) || best >= 40 {
			t.Errorf("of %v with room %d: Misses %d, Best %d", trace, room, misses, best)
		}
	}
	checkRecent(t, turningThrough(2, 60), 1, traceOf(1), 60)
	checkBest(t, turningThrough(2, 60), 1, 60)
}

// Belady: of all ways of dropping none misses less.
func TestBestIsTheLeastOfAllWays(t *testing.T) {
	for _, trace := range append(shortTraces(3, 7), shortTraces(5, 5)...) {
		for room := int64(1); room < 5; room++ {
			checkBest(t, trace, room, leastMisses(trace, room))
		}
	}
	less := 0
	for i, trace := range mixedTraces(400) {
		for at := range trace {
			trace[at] %= 4 + int64(i)%5
		}
		for room := int64(1); room <= 7; room++ {
			best, misses := impl.Best(trace, room), impl.Misses(trace, room)
			if best != leastMisses(trace, room) || best > misses {
				t.Fatalf("Best(%v, %d): %d, not %d; Misses %d", trace, room, best, leastMisses(trace, room), misses)
			}
			if best < misses {
				less++
			}
		}
	}
	if less < 500 {
		t.Errorf("%d times only Best was less", less)
	}
}

// Mattson: less room is the beginning of more, and the distance alone tells what misses.
func TestMattson(t *testing.T) {
	traces := append(mixedTraces(300), shortTraces(3, 6)...)
	for _, trace := range traces {
		var before []int64
		for room := int64(1); room <= 10; room++ {
			recent, misses := impl.Recent(trace, room), impl.Misses(trace, room)
			if !slices.Equal(recent, plainRecent(trace, room)) || misses != plainMisses(trace, room) {
				t.Fatalf("of %v with room %d: %v, %d", trace, room, recent, misses)
			}
			if len(recent) < len(before) || !slices.Equal(recent[:len(before)], before) {
				t.Fatalf("Recent(%v, %d): %v, with less room %v", trace, room, recent, before)
			}
			far := int64(0)
			for at := range trace {
				distance := impl.Distance(trace, int64(at))
				missed := impl.Misses(trace[:at+1], room) - impl.Misses(trace[:at], room)
				if (missed == 1) != (distance == 0 || distance > room) || missed != 1 && missed != 0 {
					t.Fatalf("of %v with room %d: number %d has Distance %d and missed %d", trace, room, at, distance, missed)
				}
				far += missed
			}
			best := impl.Best(trace, room)
			if far != misses || best != plainBest(trace, room) || best > misses {
				t.Fatalf("of %v with room %d: Misses %d, not %d, Best %d", trace, room, misses, far, best)
			}
			before = recent
		}
		for at := range trace {
			checkDistance(t, trace, int64(at), plainDistance(trace, int64(at)))
		}
	}
}

// roomyNumbers have room behind them, with something in it.
func roomyNumbers(list []int64) []int64 {
	all := slices.Repeat(traceOf(17), len(list)+5)
	copy(all, list)
	return all[:len(list)]
}

func TestTracesStay(t *testing.T) {
	for _, given := range append(append(mixedTraces(200), wrongTraces()...), traceOf(1, 2, 3), traceOf(3), nil) {
		trace := roomyNumbers(given)
		was := slices.Clone(trace[:cap(trace)])
		for _, room := range []int64{0, 1, 2, 3, 10, 11} {
			recent := impl.Recent(trace, room)
			again := impl.Recent(trace, room)
			impl.Misses(trace, room)
			impl.Best(trace, room)
			impl.Distance(trace, room)
			for i := range recent[:cap(recent)] {
				recent[:cap(recent)][i] = 99
			}
			if !slices.Equal(trace[:cap(trace)], was) || !slices.Equal(again, plainRecent(given, room)) {
				t.Fatalf("%.200q became %.200q", fmt.Sprint(was), fmt.Sprint(trace[:cap(trace)]))
			}
		}
	}
}

// itemsOf takes Keys and Sizes in turn.
func itemsOf(told ...any) []impl.Item {
	var items []impl.Item
	for i := 0; i < len(told); i += 2 {
		items = append(items, impl.Item{Key: told[i].(string), Size: int64(told[i+1].(int))})
	}
	return items
}

func shelfOf(quota int64, told ...any) impl.Shelf {
	return impl.Shelf{Quota: quota, Items: itemsOf(told...)}
}

// manyItems are so many of one Size, with the Keys k0, k1 and so on.
func manyItems(count int, size int64) []impl.Item {
	items := make([]impl.Item, count)
	for i := range items {
		items[i] = impl.Item{Key: fmt.Sprintf("k%d", i), Size: size}
	}
	return items
}

func keysOf(items []impl.Item) []string {
	keys := []string{}
	for _, item := range items {
		keys = append(keys, item.Key)
	}
	return keys
}

func sameShelf(a, b impl.Shelf) bool {
	return a.Quota == b.Quota && slices.Equal(a.Items, b.Items)
}

// plainShelfOk reckons the Sizes with numbers that have no end.
func plainShelfOk(s impl.Shelf) bool {
	keys, all := map[string]int{}, big.NewInt(0)
	for _, item := range s.Items {
		keys[item.Key]++
		all.Add(all, big.NewInt(item.Size))
		if len(item.Key) > 500 || item.Size <= 0 {
			return false
		}
	}
	return s.Quota > 0 && s.Quota <= 100000 && len(s.Items) <= 50 && len(keys) == len(s.Items) && all.Cmp(big.NewInt(s.Quota)) <= 0
}

func plainSizeOf(items []impl.Item) int64 {
	all := int64(0)
	for _, item := range items {
		all += item.Size
	}
	return all
}

// plainPlace tells Place once more: it drops the last one as long as there is no room.
func plainPlace(s impl.Shelf, key string, size int64) (impl.Shelf, []string) {
	if !plainShelfOk(s) {
		return impl.Shelf{}, nil
	}
	if size <= 0 || size > s.Quota || len(key) > 500 {
		return s, nil
	}
	items := []impl.Item{{Key: key, Size: size}}
	for _, item := range s.Items {
		if item.Key != key {
			items = append(items, item)
		}
	}
	var gone []string
	for len(items) > 50 || plainSizeOf(items) > s.Quota {
		gone = append(gone, items[len(items)-1].Key)
		items = items[:len(items)-1]
	}
	return impl.Shelf{Quota: s.Quota, Items: items}, gone
}

func plainUsed(s impl.Shelf, key string) impl.Shelf {
	if !plainShelfOk(s) {
		return impl.Shelf{}
	}
	var front, rest []impl.Item
	for _, item := range s.Items {
		if item.Key == key {
			front = append(front, item)
		} else {
			rest = append(rest, item)
		}
	}
	return impl.Shelf{Quota: s.Quota, Items: append(front, rest...)}
}

func checkShelfOk(t *testing.T, s impl.Shelf, want bool) {
	t.Helper()
	if impl.ShelfOk(s) != want {
		t.Errorf("ShelfOk(%.200q) is not %v", fmt.Sprint(s), want)
	}
}

func checkPlace(t *testing.T, s impl.Shelf, key string, size int64, want impl.Shelf, gone ...string) {
	t.Helper()
	if got, went := impl.Place(s, key, size); !sameShelf(got, want) || !slices.Equal(went, gone) {
		t.Errorf("Place(%.200q, %.60q, %d): %.200q, %.100q, not %.200q, %.100q", fmt.Sprint(s), key, size, fmt.Sprint(got), went, fmt.Sprint(want), gone)
	}
}

func checkUsed(t *testing.T, s impl.Shelf, key string, want impl.Shelf) {
	t.Helper()
	if got := impl.Used(s, key); !sameShelf(got, want) {
		t.Errorf("Used(%.200q, %.60q): %.200q, not %.200q", fmt.Sprint(s), key, fmt.Sprint(got), fmt.Sprint(want))
	}
}

func TestShelfOkByQuota(t *testing.T) {
	for quota, want := range map[int64]bool{0: false, 1: true, 2: true, 99999: true, 100000: true, 100001: false, -1: false, -100000: false, 1 << 31: false, 1 << 32: false, 1<<32 + 1: false, -1 << 32: false, greatest: false, greatest - 1: false, least: false, least + 1: false} {
		checkShelfOk(t, impl.Shelf{Quota: quota}, want)
		checkShelfOk(t, impl.Shelf{Quota: quota, Items: []impl.Item{}}, want)
		checkShelfOk(t, shelfOf(quota, "a", 1), want)
		checkShelfOk(t, impl.Shelf{Quota: quota, Items: []impl.Item{{Key: "a", Size: quota}}}, want)
	}
	checkShelfOk(t, impl.Shelf{}, false)
}

func TestShelfOkByCount(t *testing.T) {
	for count, want := range map[int]bool{0: true, 1: true, 2: true, 49: true, 50: true, 51: false, 52: false, 100: false, 1000: false} {
		checkShelfOk(t, impl.Shelf{Quota: 100000, Items: manyItems(count, 1)}, want)
		checkShelfOk(t, impl.Shelf{Quota: 100000, Items: manyItems(count, 100)}, want)
	}
	checkShelfOk(t, impl.Shelf{Quota: 50, Items: manyItems(50, 1)}, true)
	checkShelfOk(t, impl.Shelf{Quota: 49, Items: manyItems(50, 1)}, false)
	checkShelfOk(t, impl.Shelf{Quota: 100000, Items: manyItems(100000, 1)}, false)
}

func TestShelfOkByKey(t *testing.T) {
	for long, want := range map[int]bool{0: true, 1: true, 499: true, 500: true, 501: false, 502: false, 1000: false, 100000: false} {
		for _, letter := range []string{"k", " ", "\x00", "\xff", "/"} {
			key := strings.Repeat(letter, long)
			checkShelfOk(t, shelfOf(10, key, 1), want)
			checkShelfOk(t, shelfOf(10, "a", 1, key, 1), want)
			checkShelfOk(t, shelfOf(10, key, 1, "a", 1), want)
			checkShelfOk(t, shelfOf(10, "a", 1, key, 1, "b", 1), want)
		}
	}
	// Bytes count, not runes; and of any kind.
	checkShelfOk(t, shelfOf(10, strings.Repeat("\u00e9", 250), 1), true)
	checkShelfOk(t, shelfOf(10, strings.Repeat("\u00e9", 250)+"x", 1), false)
	for b := range 256 {
		checkShelfOk(t, shelfOf(10, string([]byte{byte(b)}), 1), true)
	}
	for _, odd := range oddTexts {
		checkShelfOk(t, shelfOf(10, odd, 1, "a", 1), true)
		checkShelfOk(t, shelfOf(10, odd, 1, odd, 1), false)
	}
}

func TestShelfOkOfAlikeKeys(t *testing.T) {
	for _, key := range []string{"", "a", "x", strings.Repeat("k", 500), "\x00", "\xff"} {
		checkShelfOk(t, shelfOf(10, key, 1, strings.Clone(key), 1), false)
		checkShelfOk(t, shelfOf(10, key, 1, key, 2, "b", 1), false)
		checkShelfOk(t, shelfOf(10, "b", 1, key, 1, key, 2), false)
		checkShelfOk(t, shelfOf(10, key, 1, "b", 1, key, 1), false)
		checkShelfOk(t, shelfOf(10, "b", 1, key, 1, "c", 1, key, 1, "d", 1), false)
		checkShelfOk(t, shelfOf(10, key, 1, key, 1, key, 1), false)
	}
	for first := range 50 {
		for second := range first {
			items := manyItems(50, 1)
			items[first].Key = items[second].Key
			checkShelfOk(t, impl.Shelf{Quota: 100, Items: items}, false)
		}
	}
	// Near is not alike.
	long := strings.Repeat("k", 499)
	checkShelfOk(t, shelfOf(10, "a", 1, "A", 1, "a ", 1, " a", 1, "aa", 1, "", 1, "a\x00", 1), true)
	checkShelfOk(t, shelfOf(10, long, 1, long+"k", 1, long+"j", 1, "j"+long, 1), true)
}

func TestShelfOkBySizes(t *testing.T) {
	for _, quota := range []int64{1, 2, 3, 10, 99999, 100000} {
		for size, want := range map[int64]bool{0: false, 1: true, quota - 1: quota > 1, quota: true, quota + 1: false, -1: false, -quota: false, 1 << 32: false, 1<<32 + 1: false, greatest: false, least: false, least + 1: false} {
			checkShelfOk(t, impl.Shelf{Quota: quota, Items: []impl.Item{{Key: "a", Size: size}}}, want)
			with := impl.Shelf{Quota: quota, Items: []impl.Item{{Key: "a", Size: 1}, {Key: "b", Size: size}}}
			checkShelfOk(t, with, want && size < quota)
			slices.Reverse(with.Items)
			checkShelfOk(t, with, want && size < quota)
		}
	}
	// Together they are just the Quota, or one more.
	checkShelfOk(t, shelfOf(10, "a", 4, "b", 6), true)
	checkShelfOk(t, shelfOf(10, "a", 4, "b", 7), false)
	checkShelfOk(t, shelfOf(10, "a", 5, "b", 6), false)
	checkShelfOk(t, shelfOf(10, "a", 3, "b", 3, "c", 4), true)
	checkShelfOk(t, shelfOf(10, "a", 4, "b", 3, "c", 4), false)
	checkShelfOk(t, impl.Shelf{Quota: 100000, Items: manyItems(50, 2000)}, true)
	checkShelfOk(t, impl.Shelf{Quota: 99999, Items: manyItems(50, 2000)}, false)
	for at := range 50 {
		items := manyItems(50, 2000)
		items[at].Size++
		checkShelfOk(t, impl.Shelf{Quota: 100000, Items: items}, false)
		items[at].Size = 0
		checkShelfOk(t, impl.Shelf{Quota: 100000, Items: items}, false)
	}
	// Together they are more than any number, or would be few again where they wrap round.
	for _, sizes := range [][]int64{{greatest, greatest}, {greatest, 1}, {greatest, 2, greatest}, {1, greatest, greatest, 1}, {greatest, greatest, 3}, {1 << 62, 1 << 62, 1 << 62, 1 << 62, 1}, {1 << 62, 1 << 62, 1 << 62, 1 << 62}, {greatest, least, 5}, {-5, 10}, {10, -5}, {least, least, 5}, {5, least, greatest, 2}, {0, 5}, {5, 0}} {
		items := manyItems(len(sizes), 1)
		for i, size := range sizes {
			items[i].Size = size
		}
		for _, quota := range []int64{1, 10, 100000} {
			checkShelfOk(t, impl.Shelf{Quota: quota, Items: items}, false)
		}
	}
	checkShelfOk(t, impl.Shelf{Quota: 100000, Items: manyItems(50, greatest)}, false)
	checkShelfOk(t, impl.Shelf{Quota: 100000, Items: manyItems(32, 1<<59)}, false)
}

// wrongShelves are not ShelfOk, each by one thing.
func wrongShelves() []impl.Shelf {
	shelves := []impl.Shelf{{}, {Quota: -1}, {Quota: 100001}, {Quota: greatest}, {Quota: least}, {Quota: 10, Items: make([]impl.Item, 1)}, {Quota: 10, Items: make([]impl.Item, 2)}, {Quota: 100000, Items: manyItems(51, 1)}, {Quota: 100000, Items: manyItems(50, greatest)}, {Quota: 49, Items: manyItems(50, 1)}}
	return append(shelves, shelfOf(0, "a", 1), shelfOf(100001, "a", 1), shelfOf(10, "a", 11), shelfOf(10, "a", 0), shelfOf(10, "a", -1), shelfOf(10, "a", 5, "b", 6), shelfOf(10, "a", 1, "a", 1), shelfOf(10, "a", 1, "b", 2, "a", 1),
		shelfOf(10, strings.Repeat("k", 501), 1), shelfOf(10, "a", 1, strings.Repeat("k", 501), 1), shelfOf(10, "", 1, "", 1), shelfOf(10, "a", greatest), shelfOf(10, "a", greatest, "b", greatest, "c", 3), shelfOf(10, "a", least))
}

func TestShelvesThatAreNotRight(t *testing.T) {
	for _, s := range wrongShelves() {
		checkShelfOk(t, s, false)
		for _, key := range []string{"a", "b", "", "k0", strings.Repeat("k", 500), strings.Repeat("k", 501)} {
			for _, size := range []int64{0, 1, 2, 10, 11, 100000, 100001, -1, greatest, least} {
				checkPlace(t, s, key, size, impl.Shelf{})
			}
			checkUsed(t, s, key, impl.Shelf{})
		}
	}
}

func TestPlaceOfNewKeys(t *testing.T) {
	checkPlace(t, shelfOf(10), "a", 1, shelfOf(10, "a", 1))
	checkPlace(t, shelfOf(10), "a", 10, shelfOf(10, "a", 10))
	checkPlace(t, shelfOf(1), "a", 1, shelfOf(1, "a", 1))
	checkPlace(t, shelfOf(10), "", 3, shelfOf(10, "", 3))
	three := shelfOf(10, "a", 2, "b", 3, "c", 4)
	// There is room.
	checkPlace(t, three, "d", 1, shelfOf(10, "d", 1, "a", 2, "b", 3, "c", 4))
	checkPlace(t, three, "", 1, shelfOf(10, "", 1, "a", 2, "b", 3, "c", 4))
	// One goes.
	checkPlace(t, three, "d", 2, shelfOf(10, "d", 2, "a", 2, "b", 3), "c")
	checkPlace(t, three, "d", 5, shelfOf(10, "d", 5, "a", 2, "b", 3), "c")
	// Several go.
	checkPlace(t, three, "d", 6, shelfOf(10, "d", 6, "a", 2), "c", "b")
	checkPlace(t, three, "d", 8, shelfOf(10, "d", 8, "a", 2), "c", "b")
	// All others go.
	checkPlace(t, three, "d", 9, shelfOf(10, "d", 9), "c", "b", "a")
	checkPlace(t, three, "d", 10, shelfOf(10, "d", 10), "c", "b", "a")
	// One that is not last stays, though without it alone there would be room, too.
	checkPlace(t, shelfOf(10, "a", 8, "b", 1, "c", 1), "d", 2, shelfOf(10, "d", 2, "a", 8), "c", "b")
	checkPlace(t, shelfOf(10, "a", 1, "b", 8, "c", 1), "d", 2, shelfOf(10, "d", 2, "a", 1), "c", "b")
	// One that would fit goes, if the one ahead of it does.
	checkPlace(t, shelfOf(10, "a", 1, "b", 5, "c", 1), "d", 9, shelfOf(10, "d", 9, "a", 1), "c", "b")
	checkPlace(t, shelfOf(10, "b", 5, "c", 1, "e", 1), "d", 9, shelfOf(10, "d", 9), "e", "c", "b")
	near := shelfOf(10, "a", 1, "A", 1, "aa", 1)
	checkPlace(t, near, "a ", 1, shelfOf(10, "a ", 1, "a", 1, "A", 1, "aa", 1))
	checkPlace(t, near, "AA", 1, shelfOf(10, "AA", 1, "a", 1, "A", 1, "aa", 1))
}

func TestPlaceOfKeysThatAreThere(t *testing.T) {
	three := shelfOf(10, "a", 2, "b", 3, "c", 4)
	// With the same Size.
	checkPlace(t, three, "a", 2, shelfOf(10, "a", 2, "b", 3, "c", 4))
	checkPlace(t, three, "b", 3, shelfOf(10, "b", 3, "a", 2, "c", 4))
	checkPlace(t, three, "c", 4, shelfOf(10, "c", 4, "a", 2, "b", 3))
	// With a smaller one.
	checkPlace(t, three, "a", 1, shelfOf(10, "a", 1, "b", 3, "c", 4))
	checkPlace(t, three, "b", 1, shelfOf(10, "b", 1, "a", 2, "c", 4))
	checkPlace(t, three, "c", 1, shelfOf(10, "c", 1, "a", 2, "b", 3))
	// With a greater one, for which there is room, since the old one is not counted any more.
	checkPlace(t, three, "a", 3, shelfOf(10, "a", 3, "b", 3, "c", 4))
	checkPlace(t, three, "b", 4, shelfOf(10, "b", 4, "a", 2, "c", 4))
	checkPlace(t, three, "c", 5, shelfOf(10, "c", 5, "a", 2, "b", 3))
	// With a greater one, for which others go: the one itself never does.
	checkPlace(t, three, "a", 4, shelfOf(10, "a", 4, "b", 3), "c")
	checkPlace(t, three, "a", 8, shelfOf(10, "a", 8), "c", "b")
	checkPlace(t, three, "b", 5, shelfOf(10, "b", 5, "a", 2), "c")
	checkPlace(t, three, "b", 9, shelfOf(10, "b", 9), "c", "a")
	checkPlace(t, three, "c", 6, shelfOf(10, "c", 6, "a", 2), "b")
	checkPlace(t, three, "c", 10, shelfOf(10, "c", 10), "b", "a")
	full := shelfOf(10, "a", 3, "b", 3, "c", 4)
	checkPlace(t, full, "a", 3, full)
	checkPlace(t, full, "b", 3, shelfOf(10, "b", 3, "a", 3, "c", 4))
	checkPlace(t, full, "c", 4, shelfOf(10, "c", 4, "a", 3, "b", 3))
	checkPlace(t, full, "c", 5, shelfOf(10, "c", 5, "a", 3), "b")
	one := shelfOf(10, "a", 4)
	for size := int64(1); size <= 10; size++ {
		checkPlace(t, one, "a", size, shelfOf(10, "a", int(size)))
	}
	empty := shelfOf(10, "a", 2, "", 3)
	checkPlace(t, empty, "", 8, shelfOf(10, "", 8, "a", 2))
	checkPlace(t, empty, "", 9, shelfOf(10, "", 9), "a")
	checkPlace(t, empty, "a", 8, shelfOf(10, "a", 8), "")
}

func TestPlaceByCount(t *testing.T) {
	for count := range 51 {
		s := impl.Shelf{Quota: 1000, Items: manyItems(count, 2)}
		want := impl.Shelf{Quota: 1000, Items: slices.Concat(itemsOf("new", 3), s.Items[:min(count, 49)])}
		checkPlace(t, s, "new", 3, want, keysOf(s.Items[min(count, 49):])...)
		// What is there takes no more room.
		for at := range count {
			want := impl.Shelf{Quota: 1000, Items: slices.Concat([]impl.Item{{Key: s.Items[at].Key, Size: 5}}, s.Items[:at], s.Items[at+1:])}
			checkPlace(t, s, s.Items[at].Key, 5, want)
		}
	}
	// By both: the 50th goes in any case, and is told first.
	s := impl.Shelf{Quota: 100, Items: manyItems(50, 2)}
	for _, c := range []struct{ size, stay int }{{1, 49}, {2, 49}, {3, 48}, {4, 48}, {5, 47}, {50, 25}, {97, 1}, {98, 1}, {99, 0}, {100, 0}} {
		gone := keysOf(s.Items[c.stay:])
		slices.Reverse(gone)
		checkPlace(t, s, "new", int64(c.size), impl.Shelf{Quota: 100, Items: slices.Concat(itemsOf("new", c.size), s.Items[:c.stay])}, gone...)
	}
	// By Quota alone, of what is there.
	checkPlace(t, s, "k49", 3, impl.Shelf{Quota: 100, Items: slices.Concat(itemsOf("k49", 3), s.Items[:48])}, "k48")
	checkPlace(t, s, "k0", 4, impl.Shelf{Quota: 100, Items: slices.Concat(itemsOf("k0", 4), s.Items[1:49])}, "k49")
	checkPlace(t, s, "k20", 100, impl.Shelf{Quota: 100, Items: itemsOf("k20", 100)}, turned(keysOf(slices.Delete(slices.Clone(s.Items), 20, 21)))...)
}

func turned(texts []string) []string {
	slices.Reverse(texts)
	return texts
}

func TestPlaceBySizeAndKey(t *testing.T) {
	for _, s := range []impl.Shelf{shelfOf(10), shelfOf(10, "a", 2, "b", 3, "c", 5), shelfOf(1, "a", 1), shelfOf(100000, "b", 99999, "a", 1), {Quota: 50, Items: manyItems(50, 1)}} {
		for _, size := range []int64{0, -1, -10, s.Quota + 1, s.Quota + 2, 2 * s.Quota, -s.Quota, 1 << 32, 1<<32 + 1, -1 << 32, greatest, greatest - 1, least, least + 1} {
			if size > 0 && size <= s.Quota {
				continue
			}
			for _, key := range []string{"", "a", "b", "c", "k0", "k49", "new", strings.Repeat("k", 500), strings.Repeat("k", 501)} {
				checkPlace(t, s, key, size, s)
			}
		}
		for _, size := range []int64{1, s.Quota} {
			long := strings.Repeat("k", 500)
			got, _ := impl.Place(s, long, size)
			if len(got.Items) == 0 || got.Items[0] != (impl.Item{Key: long, Size: size}) {
				t.Errorf("Place(%.200q, ..., %d): %.200q", fmt.Sprint(s), size, fmt.Sprint(got))
			}
			for _, longer := range []string{strings.Repeat("k", 501), strings.Repeat("k", 502), strings.Repeat("\u00e9", 251), strings.Repeat("k", 100000)} {
				checkPlace(t, s, longer, size, s)
			}
		}
	}
	checkPlace(t, shelfOf(100000, "a", 99999, "b", 1), "c", 100000, shelfOf(100000, "c", 100000), "b", "a")
	checkPlace(t, shelfOf(1, "a", 1), "b", 1, shelfOf(1, "b", 1), "a")
}

func TestUsed(t *testing.T) {
	three := shelfOf(10, "a", 2, "b", 3, "c", 4)
	checkUsed(t, three, "a", three)
	checkUsed(t, three, "b", shelfOf(10, "b", 3, "a", 2, "c", 4))
	checkUsed(t, three, "c", shelfOf(10, "c", 4, "a", 2, "b", 3))
	for _, key := range []string{"", "d", "A", "B", "a ", "ab", "a\x00", "\xff", strings.Repeat("a", 500), strings.Repeat("a", 501), strings.Repeat("a", 100000)} {
		checkUsed(t, three, key, three)
		checkUsed(t, shelfOf(10), key, shelfOf(10))
	}
	checkUsed(t, shelfOf(10, "a", 10), "a", shelfOf(10, "a", 10))
	checkUsed(t, shelfOf(10, "a", 1, "", 2), "", shelfOf(10, "", 2, "a", 1))
	long := strings.Repeat("k", 500)
	checkUsed(t, shelfOf(10, "a", 1, long, 2), long, shelfOf(10, long, 2, "a", 1))
	checkUsed(t, shelfOf(10, "a", 1, long, 2), long+"k", shelfOf(10, "a", 1, long, 2))
	all := impl.Shelf{Quota: 100000, Items: manyItems(50, 2000)}
	for at, item := range all.Items {
		checkUsed(t, all, item.Key, impl.Shelf{Quota: 100000, Items: slices.Concat([]impl.Item{item}, all.Items[:at], all.Items[at+1:])})
	}
}

// mixedShelf has few Items or many, and is mostly right.
func mixedShelf(source *rand.Rand) impl.Shelf {
	s := impl.Shelf{Quota: 1 + source.Int63n(60)}
	if source.Intn(3) == 0 {
		s.Quota = 50 + source.Int63n(99951)
	}
	left, most := s.Quota, 1+source.Int63n(8)
	for _, name := range source.Perm(60)[:source.Intn(51)] {
		size := 1 + source.Int63n(most)
		if size > left {
			break
		}
		left -= size
		s.Items = append(s.Items, impl.Item{Key: fmt.Sprintf("k%d", name), Size: size})
	}
	if source.Intn(10) == 0 {
		switch wrong := wrongShelves(); {
		case len(s.Items) > 0 && source.Intn(2) == 0:
			s.Items[source.Intn(len(s.Items))].Size += source.Int63n(9) - 4
		case len(s.Items) > 1 && source.Intn(2) == 0:
			s.Items[source.Intn(len(s.Items))].Key = s.Items[0].Key
		default:
			s = wrong[source.Intn(len(wrong))]
		}
	}
	return s
}

// A shelf that is right stays so, whatever is placed and used.
func TestShelvesOfManyKinds(t *testing.T) {
	source := rand.New(rand.NewSource(16))
	var counts [4]int
	for range 2000 {
		s := mixedShelf(source)
		for range 8 {
			checkShelfOk(t, s, plainShelfOk(s))
			key, size := fmt.Sprintf("k%d", source.Intn(60)), source.Int63n(12)
			switch source.Intn(6) {
			case 0:
				size = s.Quota + source.Int63n(3) - 1
			case 1:
				size = 1 + s.Quota/2
			}
			want, gone := plainPlace(s, key, size)
			checkPlace(t, s, key, size, want, gone...)
			checkUsed(t, s, key, plainUsed(s, key))
			placed, went := impl.Place(s, key, size)
			if impl.ShelfOk(placed) != impl.ShelfOk(s) {
				t.Fatalf("Place(%v, %q, %d): %v", s, key, size, placed)
			}
			counts[min(len(went), 3)]++
			s = placed
			if source.Intn(2) == 0 {
				s = impl.Used(s, fmt.Sprintf("k%d", source.Intn(60)))
			}
		}
		if t.Failed() {
			return
		}
	}
	if slices.Min(counts[:]) < 300 {
		t.Errorf("none, one, two and more went %v times only", counts)
	}
}

// A shelf whose Items are all of Size 1 drops as Recent does.
func TestShelvesGoWithTraces(t *testing.T) {
	for _, trace := range mixedTraces(300) {
		for room := int64(1); room <= 10; room++ {
			placed, used := impl.Shelf{Quota: room}, impl.Shelf{Quota: room}
			gone := 0
			for _, number := range trace {
				key := fmt.Sprint(number)
				var went []string
				placed, went = impl.Place(placed, key, 1)
				gone += len(went)
				if !slices.Contains(keysOf(used.Items), key) {
					used, _ = impl.Place(used, key, 1)
				} else {
					used = impl.Used(used, key)
				}
			}
			recent := impl.Recent(trace, room)
			keys := []string{}
			for _, number := range recent {
				keys = append(keys, fmt.Sprint(number))
			}
			if !slices.Equal(keysOf(placed.Items), keys) || !sameShelf(placed, used) || int64(gone+len(keys)) != impl.Misses(trace, room) {
				t.Fatalf("of %v with room %d: %v and %v, %d gone, not %v", trace, room, placed, used, gone, recent)
			}
		}
	}
}

func roomyShelf(s impl.Shelf) impl.Shelf {
	all := slices.Repeat(itemsOf("behind", 7), len(s.Items)+5)
	for i, item := range s.Items {
		all[i] = impl.Item{Key: strings.Clone(item.Key), Size: item.Size}
	}
	return impl.Shelf{Quota: s.Quota, Items: all[:len(s.Items)]}
}

func itemsShare(a, b []impl.Item) bool {
	if cap(a) == 0 || cap(b) == 0 {
		return false
	}
	const size = unsafe.Sizeof(impl.Item{})
	fromA, fromB := uintptr(unsafe.Pointer(unsafe.SliceData(a))), uintptr(unsafe.Pointer(unsafe.SliceData(b)))
	return fromA < fromB+uintptr(cap(b))*size && fromB < fromA+uintptr(cap(a))*size
}

func anyShares(a, b []string) bool {
	return slices.ContainsFunc(a, func(text string) bool {
		return slices.ContainsFunc(b, func(other string) bool { return sharesMemory(text, other) })
	})
}

func TestShelvesStayAndAnswersAreNewMemory(t *testing.T) {
	source := rand.New(rand.NewSource(17))
	shelves := append(wrongShelves(), shelfOf(10), shelfOf(10, "a", 2, "b", 3, "c", 5), shelfOf(100, "a", 1, "new", 50), impl.Shelf{Quota: 60, Items: manyItems(50, 1)})
	for range 300 {
		shelves = append(shelves, mixedShelf(source))
	}
	for _, given := range shelves {
		for _, told := range []string{"new", "a", "b", "k0", "k7", "k49", strings.Repeat("k", 501)} {
			for _, size := range []int64{0, 1, 5, given.Quota, greatest} {
				s, key := roomyShelf(given), strings.Clone(told)
				was := roomyShelf(given).Items
				texts := append(keysOf(s.Items[:cap(s.Items)]), key)
				impl.ShelfOk(s)
				used, again := impl.Used(s, key), impl.Used(s, key)
				placed, gone := impl.Place(s, key, size)
				lists := [][]impl.Item{used.Items, again.Items, placed.Items, s.Items}
				for i, list := range lists {
					for j := range i {
						if itemsShare(list, lists[j]) {
							t.Fatalf("lists %d and %d of %.200q, %q share memory", i, j, fmt.Sprint(s), key)
						}
					}
				}
				answered := [][]string{keysOf(used.Items[:cap(used.Items)]), keysOf(placed.Items[:cap(placed.Items)]), gone[:cap(gone)]}
				for i, list := range answered {
					if anyShares(list, texts) {
						t.Fatalf("texts %d of %.200q, %q share memory with it", i, fmt.Sprint(s), key)
					}
				}
				if anyShares(answered[1], answered[2]) {
					t.Fatalf("Place(%.200q, %q, %d): the lists share memory", fmt.Sprint(s), key, size)
				}
				for _, list := range lists[:3] {
					for i := range list[:cap(list)] {
						list[:cap(list)][i] = impl.Item{Key: "written", Size: 1}
					}
				}
				if !slices.Equal(s.Items[:cap(s.Items)], was[:cap(was)]) || s.Quota != given.Quota || key != told {
					t.Fatalf("%.200q became %.200q", fmt.Sprint(given), fmt.Sprint(s))
				}
			}
		}
	}
}

// Each function answers, the same twice, whatever it is given.
func TestRoomFunctionsAnswerAtEveryArgument(t *testing.T) {
	numbers := []int64{least, least + 1, -1 << 32, -1, 0, 1, 2, 10, 11, 20, 21, 50, 60, 100000, 100001, 1 << 32, greatest - 1, greatest}
	for _, a := range numbers {
		for _, b := range numbers {
			for _, c := range numbers {
				trace := traceOf(a, b, a, 1)
				checkRecent(t, trace, c, plainRecent(trace, c), plainMisses(trace, c))
				checkBest(t, trace, c, plainBest(trace, c))
				checkDistance(t, trace, c, plainDistance(trace, c))
				s := impl.Shelf{Quota: a, Items: []impl.Item{{Key: "a", Size: b}, {Key: "b", Size: c}}}
				checkShelfOk(t, s, plainShelfOk(s))
				for _, size := range numbers {
					want, gone := plainPlace(s, "b", size)
					checkPlace(t, s, "b", size, want, gone...)
					want, gone = plainPlace(s, "c", size)
					checkPlace(t, s, "c", size, want, gone...)
				}
				checkUsed(t, s, "b", plainUsed(s, "b"))
			}
		}
	}
	texts := append(append(textsOf("a\x00\xff ", 3), oddTexts...), hugeTexts()...)
	for _, text := range texts {
		for _, s := range []impl.Shelf{shelfOf(10, text, 4), shelfOf(10, "a", 1, text, 4), shelfOf(10, "a", 1, "b", 9), {}} {
			checkShelfOk(t, s, plainShelfOk(s))
			for _, size := range []int64{0, 1, 6, 10, 11} {
				want, gone := plainPlace(s, text, size)
				checkPlace(t, s, text, size, want, gone...)
			}
			checkUsed(t, s, text, plainUsed(s, text))
		}
	}
}
