package tests

import (
	"fmt"
	"math/big"
	"math/rand"
	"slices"
	"strings"
	"testing"
	"unsafe"

	"loop.example/g00207/impl"
)

const hashTop = 2147483646

// plainHash tells Hash once more, as one sum that is divided but at its end.
func plainHash(text string) int64 {
	factor, power, sum := big.NewInt(16777619), big.NewInt(1), new(big.Int)
	for i := len(text) - 1; i >= 0; i-- {
		sum.Add(sum, new(big.Int).Mul(power, big.NewInt(int64(text[i])+1)))
		power.Mul(power, factor)
	}
	sum.Add(sum, power.Mul(power, big.NewInt(9)))
	return sum.Mod(sum, big.NewInt(hashTop+1)).Int64()
}

// quickHash is plainHash for texts that are too long for it.
func quickHash(text string) int64 {
	h := uint64(9)
	for i := range len(text) {
		h *= 16777619
		h += uint64(text[i])
		h++
		h -= h / (hashTop + 1) * (hashTop + 1)
	}
	return int64(h)
}

func plainWeight(server int64, key string) int64 {
	if server < 0 || 99 < server {
		return -1
	}
	return quickHash(fmt.Sprintf("%d:%s", server, key))
}

func areServers(servers []int64) bool {
	if len(servers) == 0 || 9 < len(servers) || servers[0] < 0 || 99 < servers[len(servers)-1] {
		return false
	}
	for i := range len(servers) - 1 {
		if servers[i] >= servers[i+1] {
			return false
		}
	}
	return true
}

// plainRanked tells Ranked once more: the place of each is how many are ahead of it.
func plainRanked(servers []int64, key string) []int64 {
	if !areServers(servers) {
		return nil
	}
	ranked := make([]int64, len(servers))
	for _, server := range servers {
		ahead := 0
		for _, other := range servers {
			mine, its := plainWeight(server, key), plainWeight(other, key)
			if its > mine || its == mine && other < server {
				ahead++
			}
		}
		ranked[ahead] = server
	}
	return ranked
}

func plainOwner(servers []int64, key string) int64 {
	if ranked := plainRanked(servers, key); len(ranked) > 0 {
		return ranked[0]
	}
	return -1
}

func lacking(servers []int64, gone int64) []int64 {
	return slices.DeleteFunc(slices.Clone(servers), func(server int64) bool { return server == gone })
}

func plainMoved(servers []int64, gone int64, keys []string) []int64 {
	if !areServers(servers) || len(servers) == 1 || !slices.Contains(servers, gone) || len(keys) >= 101 {
		return nil
	}
	var moved []int64
	for i, key := range keys {
		if plainOwner(servers, key) != plainOwner(lacking(servers, gone), key) {
			moved = append(moved, int64(i))
		}
	}
	return moved
}

func checkHash(t *testing.T, text string, want int64) {
	t.Helper()
	if got := impl.Hash(text); got != want {
		t.Errorf("Hash(%.100q) of %d bytes: %d, not %d", text, len(text), got, want)
	}
}

func checkWeight(t *testing.T, server int64, key string, want int64) {
	t.Helper()
	if got := impl.Weight(server, key); got != want {
		t.Errorf("Weight(%d, %.100q): %d, not %d", server, key, got, want)
	}
}

// checkRanked asks Owner, too: it is the first, or -1.
func checkRanked(t *testing.T, servers []int64, key string, want ...int64) {
	t.Helper()
	if got := impl.Ranked(servers, key); !slices.Equal(got, want) {
		t.Errorf("Ranked(%.100q, %.100q): %v, not %v", fmt.Sprint(servers), key, got, want)
	}
	if got, first := impl.Owner(servers, key), append(slices.Clone(want), -1)[0]; got != first {
		t.Errorf("Owner(%.100q, %.100q): %d, not %d", fmt.Sprint(servers), key, got, first)
	}
}

func checkMoved(t *testing.T, servers []int64, gone int64, keys []string, want ...int64) {
	t.Helper()
	if got := impl.Moved(servers, gone, keys); !slices.Equal(got, want) {
		t.Errorf("Moved(%.100q, %d, %.200q): %v, not %v", fmt.Sprint(servers), gone, keys, got, want)
	}
}

// drawnServers are right, of each count and over all numbers.
func drawnServers(source *rand.Rand, count int) []int64 {
	var servers []int64
	for _, number := range source.Perm(100)[:count] {
		servers = append(servers, int64(number))
	}
	slices.Sort(servers)
	return servers
}

// drawnKeys are of many lengths, for those of one length are ranked in few ways.
func drawnKeys(source *rand.Rand, count int) []string {
	keys := make([]string, count)
	for i := range keys {
		key := make([]byte, source.Intn(40))
		for at := range key {
			key[at] = byte(source.Intn(256))
			if source.Intn(2) == 0 {
				key[at] = "h/a:0123456789"[source.Intn(14)]
			}
		}
		keys[i] = string(key)
	}
	return keys
}

// wrongServers are none, too many, out of range, or do not rise.
func wrongServers() [][]int64 {
	lists := [][]int64{nil, {}, risingFrom(0, 10), risingFrom(90, 10), risingFrom(0, 11), risingFrom(0, 100), risingFrom(-1, 9), risingFrom(92, 9), make([]int64, 9), make([]int64, 10), make([]int64, 100000)}
	for _, wrong := range []int64{-1, 100, -2, 101, 1000, -99, 1 << 8, 1 << 16, 1 << 31, 1 << 32, 1<<32 + 3, -1 << 32, greatest, greatest - 1, least, least + 1} {
		lists = append(lists, []int64{wrong}, []int64{wrong, 3}, []int64{3, wrong}, []int64{3, wrong, 5}, []int64{wrong, wrong})
		for _, at := range []int{0, 4, 8} {
			nine := risingFrom(40, 9)
			nine[at] = wrong
			lists = append(lists, nine)
		}
	}
	for at := range 8 {
		alike, falls := risingFrom(0, 9), risingFrom(91, 9)
		alike[at+1] = alike[at]
		falls[at], falls[at+1] = falls[at+1], falls[at]
		lists = append(lists, alike, falls)
	}
	return append(lists, []int64{0, 0}, []int64{99, 99}, []int64{1, 0}, []int64{99, 0}, []int64{0, 2, 1}, []int64{2, 1, 0}, []int64{1, 2, 1}, []int64{0, 1, 1, 2}, []int64{0, 0, 1}, []int64{0, 1, 1}, []int64{5, 3, 4})
}

func TestOwnerConstants(t *testing.T) {
	if impl.MaxServers != 9 {
		t.Fatal(impl.MaxServers)
	}
}

func TestHash(t *testing.T) {
	for text, want := range map[string]int64{
		"": 9, "a": 150998669, "b": 150998670, "0": 150998620, " ": 150998604,
		"\x00": 150998572, "\xff": 150998827, "\x00\x00": 1462259581, "\x00\xff": 1462259836, "\xff\x00": 1445585132, "\xff\xff": 1445585387,
		"00": 120101694, "0:": 120101704, "h/a": 1391819534, "1:h/a": 126715252, "depot": 1168893123, "Depot": 462898528,
		strings.Repeat("a", 200):     726437828,
		strings.Repeat("\x00", 1000): 678044143, strings.Repeat("\xff", 1000): 1153692469,
		strings.Repeat("\x00", 100000): 1921247355, strings.Repeat("\xff", 100000): 1692566118,
	} {
		checkHash(t, text, want)
	}
	for b := range 256 {
		checkHash(t, string([]byte{byte(b)}), 150998572+int64(b))
	}
}

// The same bytes in another order are another text.
func TestHashByOrder(t *testing.T) {
	for text, want := range map[string]int64{
		"ab": 942205075, "ba": 958982693,
		"abc": 2077651534, "acb": 2094429152, "bac": 551217963, "bca": 584773199, "cab": 1189045657, "cba": 1205823275,
	} {
		checkHash(t, text, want)
	}
	known := map[int64]string{}
	for _, text := range textsOf("ab\x00\xff", 3) {
		if other, is := known[impl.Hash(text)]; is {
			t.Errorf("Hash of %q and of %q are %d", other, text, impl.Hash(text))
		}
		known[impl.Hash(text)] = text
	}
}

// What is divided without a rest is 0, and goes on from there; the greatest is one less than what divides.
func TestHashAtItsEnds(t *testing.T) {
	for text, want := range map[string]int64{
		"IBie8Z": 0, "IBie8Z\x00": 1, "IBie8Za": 98, "IBie8Z\xff": 256,
		"KN5m8c": 1, "KN5m8c\x00": 16777620,
		"IBie8Y": hashTop, "IBie8X": hashTop - 1, "IBie8[": 1, "IBie8Y\x00": hashTop + 1 - 16777619 + 1,
	} {
		checkHash(t, text, want)
	}
}

func TestHashOfManyTexts(t *testing.T) {
	texts := append(append(textsOf("a0:\x00\xff", 4), oddTexts...), mixedTexts(3000, 60)...)
	for _, text := range texts {
		checkHash(t, text, plainHash(text))
		if quick := quickHash(text); quick != plainHash(text) {
			t.Fatalf("the tests tell %d and %d of %q", quick, plainHash(text), text)
		}
	}
	for _, text := range hugeTexts() {
		checkHash(t, text, quickHash(text))
	}
	source := rand.New(rand.NewSource(18))
	for range 2000 {
		h := impl.Hash(drawnKeys(source, 1)[0])
		if h < 0 || h > hashTop {
			t.Fatal(h)
		}
	}
}

func TestWeight(t *testing.T) {
	keys := []string{"", "h/a", "1:a", "0", ":a", ":", "\xff", strings.Repeat("a", 500)}
	for server, weights := range map[int64][]int64{
		0:  {120101704, 2050809976, 1514578912, 217760726, 1323061170, 217760736, 217760933, 622840044},
		1:  {136879323, 126715252, 1737967835, 855588421, 389354972, 855588431, 855588628, 1534081238},
		8:  {254322656, 1690437713, 1154206649, 1025414992, 295862527, 1025415002, 1025415199, 1470318655},
		9:  {271100275, 1913826636, 1377595572, 1663242687, 1509639976, 1663242697, 1663242894, 234076202},
		10: {687812241, 398268395, 2009520978, 453528914, 1783093541, 453528924, 453529121, 673927060},
		11: {704589860, 621657318, 85426254, 1091356609, 849387343, 1091356619, 1091356816, 1585168254},
		98: {1629687459, 179635307, 1790887890, 233984537, 395522635, 233984547, 233984744, 857032238},
		99: {1646465078, 403024230, 2014276813, 871812232, 1609300084, 871812242, 871812439, 1768273432},
	} {
		for i, key := range keys {
			checkWeight(t, server, key, weights[i])
		}
	}
	for _, server := range []int64{-1, 100, -2, 101, -9, 1000, 1 << 8, 1 << 32, 1<<32 + 1, -1 << 32, greatest, greatest - 1, least, least + 1} {
		for _, key := range keys {
			checkWeight(t, server, key, -1)
		}
	}
}

func TestWeightIsAHash(t *testing.T) {
	keys := append([]string{"", ":", "::", "0", "00", "0:", "9:9", "1h/a", "10:a", "-1", " ", "IBie8Z"}, oddTexts...)
	for server := int64(-3); server < 104; server++ {
		for _, key := range keys {
			checkWeight(t, server, key, plainWeight(server, key))
			if server >= 0 && server < 100 {
				checkWeight(t, server, key, impl.Hash(fmt.Sprint(server)+":"+key))
			}
		}
	}
	// The : parts the number from a key that begins with digits.
	for server := range int64(10) {
		for _, digit := range []string{"0", "5", "9"} {
			if impl.Weight(server, digit+"a") == impl.Weight(10*server+int64(digit[0]-'0'), "a") {
				t.Errorf("server %d, key %sa", server, digit)
			}
		}
	}
}

// No key has two alike Weights: what follows on two unlike Hashes of one and the same rest is unlike, since 2147483647 is a prime that does not divide 16777619.
func TestNoTwoWeightsAreAlike(t *testing.T) {
	if !big.NewInt(hashTop + 1).ProbablyPrime(20) {
		t.Fatal(hashTop + 1)
	}
	source := rand.New(rand.NewSource(19))
	for _, key := range append(drawnKeys(source, 500), "", ":", "h/a", "IBie8Z") {
		known := map[int64]int64{}
		for server := range int64(100) {
			weight := impl.Weight(server, key)
			if other, is := known[weight]; is {
				t.Fatalf("servers %d and %d weigh %d for %q", other, server, weight, key)
			}
			known[weight] = server
		}
	}
	known := map[int64]int64{}
	for server := range int64(100) {
		if other, is := known[impl.Hash(fmt.Sprint(server))]; is {
			t.Fatalf("servers %d and %d have one Hash", other, server)
		}
		known[impl.Hash(fmt.Sprint(server))] = server
	}
}

func TestRankedOfThree(t *testing.T) {
	for key, want := range map[string][]int64{
		"": {2, 1, 0}, "h/a": {0, 2, 1}, "h/b": {0, 2, 1}, "a": {2, 1, 0}, ":": {2, 1, 0}, "0:": {2, 0, 1}, "host/a?a=1": {0, 1, 2},
		"aa": {0, 1, 2}, "/a": {2, 0, 1}, "a/a": {1, 0, 2}, "abba": {1, 2, 0}, "aa1aa": {0, 2, 1},
	} {
		checkRanked(t, []int64{0, 1, 2}, key, want...)
	}
}

func TestRankedByCount(t *testing.T) {
	for server := int64(-2); server < 103; server++ {
		for _, key := range []string{"", "h/a", "x/y/z"} {
			if server < 0 || server > 99 {
				checkRanked(t, []int64{server}, key)
			} else {
				checkRanked(t, []int64{server}, key, server)
			}
		}
	}
	checkRanked(t, nil, "h/a")
	checkRanked(t, []int64{}, "")
	checkRanked(t, []int64{0, 1}, "", 1, 0)
	checkRanked(t, []int64{0, 1}, "h/a", 0, 1)
	checkRanked(t, []int64{0, 99}, "", 99, 0)
	checkRanked(t, []int64{0, 99}, "h/a", 0, 99)
	checkRanked(t, []int64{0, 9, 10, 99}, "", 99, 10, 9, 0)
	checkRanked(t, []int64{0, 9, 10, 99}, "h/a", 0, 9, 99, 10)
	checkRanked(t, []int64{0, 9, 10, 99}, ":", 9, 99, 10, 0)
	checkRanked(t, []int64{0, 9, 10, 99}, "0:", 10, 99, 9, 0)
	checkRanked(t, []int64{3, 14, 15, 92}, "key", 14, 92, 3, 15)
	for count := 1; count < 13; count++ {
		for _, first := range []int64{0, 50, 100 - int64(count)} {
			servers := risingFrom(first, count)
			ranked := impl.Ranked(servers, "key")
			slices.Sort(ranked)
			if count <= 9 && !slices.Equal(ranked, servers) || count > 9 && (len(ranked) != 0 || impl.Owner(servers, "key") != -1) {
				t.Errorf("Ranked(%v): %v", servers, ranked)
			}
		}
	}
}

func TestRankedOfNine(t *testing.T) {
	low, high, far := risingFrom(0, 9), risingFrom(91, 9), []int64{0, 9, 10, 11, 19, 20, 90, 98, 99}
	checkRanked(t, low, "", 8, 7, 6, 5, 4, 3, 2, 1, 0)
	checkRanked(t, low, "h/a", 0, 8, 7, 6, 5, 4, 3, 2, 1)
	checkRanked(t, low, ":", 3, 6, 2, 5, 8, 1, 4, 7, 0)
	checkRanked(t, low, "0:", 6, 4, 2, 0, 7, 5, 3, 1, 8)
	checkRanked(t, low, "host/a?a=1", 6, 3, 0, 7, 4, 1, 8, 5, 2)
	checkRanked(t, high, "", 99, 98, 97, 96, 95, 94, 93, 92, 91)
	checkRanked(t, high, "h/a", 97, 96, 95, 94, 93, 92, 91, 99, 98)
	checkRanked(t, high, "ca", 97, 95, 93, 91, 98, 96, 94, 92, 99)
	checkRanked(t, far, "", 99, 98, 90, 20, 19, 11, 10, 9, 0)
	checkRanked(t, far, "h/a", 0, 9, 11, 90, 99, 10, 19, 98, 20)
	checkRanked(t, far, ":", 19, 20, 9, 90, 11, 99, 10, 98, 0)
	checkRanked(t, far, "0:", 20, 19, 10, 99, 9, 90, 0, 11, 98)
}

// longestChain are nine rising servers of which each one's Weight is as told against that of the one ahead of it.
func longestChain(key string, follows func(before, behind int64) bool) []int64 {
	var chains [100][]int64
	for server := range int64(100) {
		chains[server] = []int64{server}
		for before := range server {
			if follows(plainWeight(before, key), plainWeight(server, key)) && len(chains[before]) >= len(chains[server]) {
				chains[server] = append(slices.Clone(chains[before]), server)
			}
		}
		if len(chains[server]) == 9 {
			return chains[server]
		}
	}
	return nil
}

func TestRankedOfWeightsThatFallAndRise(t *testing.T) {
	for _, key := range []string{"", "h/a", ":", "0:", "key", "x/y/z", "host/a?a=1"} {
		falling := longestChain(key, func(before, behind int64) bool { return before > behind })
		rising := longestChain(key, func(before, behind int64) bool { return before < behind })
		// With the empty key the Weights rise as the numbers do.
		if len(falling) != 9 && key != "" || len(rising) != 9 {
			t.Fatalf("%q: %v, %v", key, falling, rising)
		}
		for from := range falling {
			checkRanked(t, falling[from:], key, falling[from:]...)
		}
		for from := range rising {
			back := slices.Clone(rising[from:])
			slices.Reverse(back)
			checkRanked(t, rising[from:], key, back...)
		}
	}
}

func TestRankedOfWrongServers(t *testing.T) {
	for _, servers := range wrongServers() {
		for _, key := range []string{"", "h/a", "0:", "\xff"} {
			checkRanked(t, servers, key)
			checkMoved(t, servers, 3, []string{key})
			if len(servers) > 0 {
				checkMoved(t, servers, servers[0], []string{key, "a"})
				checkMoved(t, servers, servers[len(servers)-1], []string{key, "aa"})
			}
		}
	}
}

// Each server stands there once, by Weights that do not rise.
func TestRankedOfDrawnServers(t *testing.T) {
	source := rand.New(rand.NewSource(20))
	for range 4000 {
		servers, key := drawnServers(source, 1+source.Intn(9)), drawnKeys(source, 1)[0]
		ranked := impl.Ranked(servers, key)
		checkRanked(t, servers, key, plainRanked(servers, key)...)
		for i := 1; i < len(ranked); i++ {
			if impl.Weight(ranked[i-1], key) < impl.Weight(ranked[i], key) {
				t.Fatalf("Ranked(%v, %q): %v", servers, key, ranked)
			}
		}
		slices.Sort(ranked)
		if !slices.Equal(ranked, servers) || !slices.Contains(servers, impl.Owner(servers, key)) {
			t.Fatalf("Ranked(%v, %q): %v", servers, key, ranked)
		}
	}
}

func TestMoved(t *testing.T) {
	three := []int64{0, 1, 2}
	// The Owners are 2, 0, 2, 1, 1, 0, 0.
	keys := []string{"", "aa", "/a", "a/a", "abba", "aa1aa", "h/a"}
	checkMoved(t, three, 0, keys, 1, 5, 6)
	checkMoved(t, three, 1, keys, 3, 4)
	checkMoved(t, three, 2, keys, 0, 2)
	for _, gone := range []int64{-1, 3, 4, 9, 99, 100, 1 << 32, 1<<32 + 1, greatest, least} {
		checkMoved(t, three, gone, keys)
	}
	// All are the gone one's, or none is.
	checkMoved(t, three, 0, []string{"aa", "aa1aa", "h/a"}, 0, 1, 2)
	checkMoved(t, three, 1, []string{"aa", "aa1aa", "h/a"})
	checkMoved(t, three, 2, []string{"aa", "aa1aa", "h/a"})
	// Numbers of servers that are not their places in the list.
	four := []int64{3, 14, 15, 92}
	checkMoved(t, four, 3, []string{"a", "ca", "/x", "key", "x/y/z"}, 0, 4)
	checkMoved(t, four, 14, []string{"a", "ca", "/x", "key", "x/y/z"}, 3)
	checkMoved(t, four, 15, []string{"a", "ca", "/x", "key", "x/y/z"}, 1)
	checkMoved(t, four, 92, []string{"a", "ca", "/x", "key", "x/y/z"}, 2)
	for _, gone := range []int64{0, 1, 2, 4, 13, 16, 91, 93} {
		checkMoved(t, four, gone, []string{"a", "ca", "/x", "key", "x/y/z"})
	}
	checkMoved(t, risingFrom(0, 9), 0, []string{"h/a", "", "ca", ":"}, 0, 2)
	checkMoved(t, risingFrom(0, 9), 3, []string{"h/a", "", "ca", ":"}, 3)
	checkMoved(t, risingFrom(0, 9), 8, []string{"h/a", "", "ca", ":"}, 1)
	checkMoved(t, risingFrom(0, 9), 4, []string{"h/a", "", "ca", ":"})
	checkMoved(t, risingFrom(0, 10), 0, []string{"h/a", "", "ca", ":"})
}

func TestMovedByServers(t *testing.T) {
	keys := []string{"", "h/a", "aa"}
	checkMoved(t, nil, 0, keys)
	for _, only := range []int64{0, 1, 50, 99} {
		checkMoved(t, []int64{only}, only, keys)
		checkMoved(t, []int64{only}, only+1, keys)
	}
	checkMoved(t, []int64{0, 1}, 0, keys, 1, 2)
	checkMoved(t, []int64{0, 1}, 1, keys, 0)
	checkMoved(t, []int64{0, 1}, 2, keys)
	checkMoved(t, []int64{0, 99}, 99, keys, 0)
	checkMoved(t, []int64{0, 99}, 1, keys)
	checkMoved(t, []int64{0, 100}, 0, keys)
	checkMoved(t, []int64{0, 100}, 100, keys)
	checkMoved(t, []int64{-1, 0}, -1, keys)
	checkMoved(t, []int64{-1, 0, 1}, 0, keys)
	checkMoved(t, []int64{1, 0}, 0, keys)
	checkMoved(t, []int64{0, 0}, 0, keys)
	// Without the one that is gone these would be right.
	checkMoved(t, []int64{0, 0, 1}, 0, keys)
	checkMoved(t, []int64{0, 1, 1}, 1, keys)
	checkMoved(t, []int64{0, 2, 1}, 2, keys)
	checkMoved(t, []int64{0, 1, 100}, 100, keys)
	checkMoved(t, []int64{0, 1, greatest}, greatest, keys)
	checkMoved(t, []int64{least, 0, 1}, least, keys)
	checkMoved(t, risingFrom(0, 10), 9, keys)
}

func TestMovedByKeys(t *testing.T) {
	three := []int64{0, 1, 2}
	checkMoved(t, three, 0, nil)
	checkMoved(t, three, 0, []string{})
	checkMoved(t, three, 0, []string{"h/a"}, 0)
	checkMoved(t, three, 1, []string{"h/a"})
	// One key several times moves each time.
	checkMoved(t, three, 0, []string{"h/a", "h/a"}, 0, 1)
	checkMoved(t, three, 0, []string{"h/a", "", "h/a", "", "", "h/a"}, 0, 2, 5)
	checkMoved(t, three, 2, []string{"h/a", "", "h/a", "", "", "h/a"}, 1, 3, 4)
	for _, count := range []int{1, 2, 99, 100} {
		checkMoved(t, three, 0, slices.Repeat([]string{"h/a"}, count), risingFrom(0, count)...)
		checkMoved(t, three, 2, slices.Repeat([]string{"h/a"}, count))
	}
	for _, count := range []int{101, 102, 200, 1000, 100000} {
		checkMoved(t, three, 0, slices.Repeat([]string{"h/a"}, count))
		checkMoved(t, three, 2, slices.Repeat([]string{"h/a"}, count))
	}
	last := append(make([]string, 99), "h/a")
	checkMoved(t, three, 0, last, 99)
	checkMoved(t, three, 2, last, risingFrom(0, 99)...)
	checkMoved(t, three, 0, append(last, "h/a"))
	for _, key := range append(hugeTexts(), oddTexts...) {
		owner := plainOwner(three, key)
		for _, gone := range three {
			if gone == owner {
				checkMoved(t, three, gone, []string{key}, 0)
			} else {
				checkMoved(t, three, gone, []string{key})
			}
		}
	}
}

// Just the keys of the one that is gone move, each to the second of its rank; the others stay with whom they were.
func TestFewMove(t *testing.T) {
	source := rand.New(rand.NewSource(21))
	var moves, stays int
	for range 120 {
		servers, keys := drawnServers(source, 2+source.Intn(8)), drawnKeys(source, source.Intn(101))
		all := 0
		for _, gone := range servers {
			rest := lacking(servers, gone)
			own := []int64{}
			for i, key := range keys {
				ranked, owner := impl.Ranked(servers, key), impl.Owner(servers, key)
				if owner == gone {
					own = append(own, int64(i))
					owner = ranked[1]
				}
				if got := impl.Owner(rest, key); got != owner {
					t.Fatalf("Owner(%v, %q): %d, not %d, when %d is gone", rest, key, got, owner, gone)
				}
				if !slices.Equal(impl.Ranked(rest, key), lacking(ranked, gone)) {
					t.Fatalf("Ranked(%v, %q): %v, not %v without %d", rest, key, impl.Ranked(rest, key), ranked, gone)
				}
			}
			checkMoved(t, servers, gone, keys, own...)
			checkMoved(t, servers, gone, keys, plainMoved(servers, gone, keys)...)
			all += len(own)
			moves, stays = moves+len(own), stays+len(keys)-len(own)
		}
		if all != len(keys) || t.Failed() {
			t.Fatalf("%d of %d keys have an Owner of %v", all, len(keys), servers)
		}
	}
	if moves < 3000 || stays < 3000 {
		t.Errorf("%d moved, %d stayed only", moves, stays)
	}
}

func numbersShare(a, b []int64) bool {
	if cap(a) == 0 || cap(b) == 0 {
		return false
	}
	fromA, fromB := uintptr(unsafe.Pointer(unsafe.SliceData(a))), uintptr(unsafe.Pointer(unsafe.SliceData(b)))
	return fromA < fromB+uintptr(cap(b))*8 && fromB < fromA+uintptr(cap(a))*8
}

func TestServersStayAndAnswersAreNewMemory(t *testing.T) {
	source := rand.New(rand.NewSource(22))
	lists := append(wrongServers(), []int64{0, 1, 2}, []int64{2}, risingFrom(0, 9), risingFrom(91, 9))
	for range 300 {
		lists = append(lists, drawnServers(source, 1+source.Intn(9)))
	}
	for _, given := range lists {
		servers, keys := roomyNumbers(given), slices.Grow(drawnKeys(source, source.Intn(20)), 5)
		was, wereKeys := slices.Clone(servers[:cap(servers)]), slices.Clone(keys[:cap(keys)])
		for _, gone := range append([]int64{-1, 50}, given[:min(len(given), 9)]...) {
			impl.Owner(servers, "h/a")
			answers := [][]int64{impl.Ranked(servers, "h/a"), impl.Ranked(servers, "h/a"), impl.Moved(servers, gone, keys), impl.Moved(servers, gone, keys), servers}
			for i, list := range answers {
				for j := range i {
					if numbersShare(list, answers[j]) {
						t.Fatalf("lists %d and %d of %.200q share memory", i, j, fmt.Sprint(servers))
					}
				}
			}
			for _, i := range []int{0, 2} {
				for at := range answers[i][:cap(answers[i])] {
					answers[i][:cap(answers[i])][at] = 77
				}
			}
			if !slices.Equal(answers[1], plainRanked(given, "h/a")) || !slices.Equal(answers[3], plainMoved(given, gone, keys)) {
				t.Fatalf("of %.200q the answers became %v", fmt.Sprint(given), answers[:4])
			}
			if !slices.Equal(servers[:cap(servers)], was) || !slices.Equal(keys[:cap(keys)], wereKeys) {
				t.Fatalf("%.200q became %.200q, or %.200q %.200q", fmt.Sprint(was), fmt.Sprint(servers[:cap(servers)]), wereKeys, keys[:cap(keys)])
			}
		}
	}
}

// Each function answers, whatever it is given.
func TestOwnerFunctionsAnswerAtEveryArgument(t *testing.T) {
	numbers := []int64{least, least + 1, -1 << 32, -1, 0, 1, 8, 9, 10, 98, 99, 100, 101, 1 << 32, 1<<32 + 1, greatest - 1, greatest}
	keys := []string{"", "h/a", "aa", "abba", "a"}
	for _, a := range numbers {
		for _, key := range keys {
			checkWeight(t, a, key, plainWeight(a, key))
			checkRanked(t, []int64{a}, key, plainRanked([]int64{a}, key)...)
		}
		for _, b := range numbers {
			for _, c := range numbers {
				for _, key := range keys[:3] {
					checkRanked(t, []int64{a, b}, key, plainRanked([]int64{a, b}, key)...)
					checkRanked(t, []int64{a, b, c}, key, plainRanked([]int64{a, b, c}, key)...)
				}
				checkMoved(t, []int64{a, b}, c, keys, plainMoved([]int64{a, b}, c, keys)...)
				for _, gone := range []int64{a, b, c, least, -1, 0, 9, 99, 100, greatest} {
					checkMoved(t, []int64{a, b, c}, gone, keys, plainMoved([]int64{a, b, c}, gone, keys)...)
				}
			}
		}
	}
	for _, text := range append(append(textsOf("0:\x00\xff", 3), oddTexts...), hugeTexts()...) {
		checkHash(t, text, quickHash(text))
		for _, server := range []int64{-1, 0, 9, 10, 99, 100} {
			checkWeight(t, server, text, plainWeight(server, text))
		}
		checkRanked(t, []int64{0, 9, 10, 99}, text, plainRanked([]int64{0, 9, 10, 99}, text)...)
	}
}
