package tests

import (
	"fmt"
	"math/rand"
	"slices"
	"strings"
	"testing"

	"loop.example/g00207/impl"
)

// An Op of each Kind, by what it has.
func submitTo(server int64, text string) impl.Op {
	return impl.Op{Kind: 1, Server: server, Text: text}
}

func suspectOf(server int64) impl.Op { return impl.Op{Kind: 2, Server: server} }

func spreadOf(server int64) impl.Op { return impl.Op{Kind: 3, Server: server} }

func stopOf(server int64) impl.Op { return impl.Op{Kind: 7, Server: server} }

func deliverAt(index int64) impl.Op { return impl.Op{Kind: 4, Index: index} }

func loseAt(index int64) impl.Op { return impl.Op{Kind: 5, Index: index} }

func twiceAt(index int64) impl.Op { return impl.Op{Kind: 6, Index: index} }

func clusterOf(net []impl.Message, replicas ...impl.Replica) impl.Cluster {
	return impl.Cluster{Replicas: replicas, Net: net}
}

func newOnes(peers int64) []impl.Replica {
	list := []impl.Replica{leaderOf(peers, 0, 0, make([]int64, peers))}
	for id := int64(1); id < peers; id++ {
		list = append(list, followerOf(id, peers, 0, 0))
	}
	return list
}

func freshCluster(peers int64, net ...impl.Message) impl.Cluster {
	return clusterOf(net, newOnes(peers)...)
}

func messages(list ...impl.Message) []impl.Message { return list }

func sameCluster(a, b impl.Cluster) bool {
	return slices.EqualFunc(a.Replicas, b.Replicas, sameReplica) && sameMessages(a.Net, b.Net)
}

func deepCluster(c impl.Cluster) impl.Cluster {
	c.Replicas, c.Net = slices.Clone(c.Replicas), slices.Clone(c.Net)
	for i, r := range c.Replicas {
		c.Replicas[i] = deepReplica(r)
	}
	for i, m := range c.Net {
		c.Net[i] = deepMessage(m)
	}
	return c
}

// junk are messages to a server from itself, which nobody answers; each has a Commit of its own.
func junk(to int64, count int) []impl.Message {
	list := make([]impl.Message, count)
	for i := range list {
		list[i] = okTo(to, to, 0, int64(i%61))
	}
	return list
}

// plainClusterOk and its kin tell the functions of the chapter once more.
func plainClusterOk(c impl.Cluster) bool {
	count := len(c.Replicas)
	if count%2 == 0 || count > 5 || len(c.Net) >= 151 {
		return false
	}
	for id := range count {
		r := c.Replicas[id]
		if r.Id != int64(id) || r.Peers != int64(count) || !plainReplicaOk(r) {
			return false
		}
	}
	return !slices.ContainsFunc(c.Net, func(m impl.Message) bool { return m.To < 0 || m.To > int64(count)-1 })
}

func plainAct(c impl.Cluster, op impl.Op) (impl.Cluster, int64) {
	if !plainClusterOk(c) {
		return impl.Cluster{}, -2
	}
	byServer := map[int64]bool{1: true, 2: true, 3: true, 7: true}[op.Kind]
	byIndex := lies(op.Kind, 4, 6)
	if !byServer && !byIndex || byServer && !lies(op.Server, 0, int64(len(c.Replicas))-1) || byIndex && !lies(op.Index, 0, int64(len(c.Net))-1) {
		return c, -1
	}
	ones, ahead, behind, sent := slices.Clone(c.Replicas), c.Net, []impl.Message(nil), []impl.Message(nil)
	var m impl.Message
	if byIndex {
		m = c.Net[op.Index]
	}
	if op.Kind == 4 || op.Kind == 5 {
		ahead, behind = c.Net[:op.Index], c.Net[op.Index+1:]
	}
	number := int64(0)
	switch op.Kind {
	case 1:
		ones[op.Server], sent, number = plainSubmit(ones[op.Server], op.Text)
	case 2:
		ones[op.Server], sent = plainSuspect(ones[op.Server])
	case 3:
		sent = plainSpread(ones[op.Server])
	case 4:
		ones[m.To], sent = plainReceive(ones[m.To], m)
	case 6:
		sent = messages(m)
	case 7:
		ones[op.Server] = plainStop(ones[op.Server])
	}
	net := slices.Concat(ahead, behind, sent)
	for len(net) > 150 {
		net = net[:len(net)-1]
	}
	return impl.Cluster{Replicas: ones, Net: net}, number
}

func plainPlay(c impl.Cluster, list []impl.Op) (impl.Cluster, []int64) {
	if !plainClusterOk(c) || len(list) >= 301 {
		return impl.Cluster{}, nil
	}
	var told []int64
	for _, op := range list {
		next, number := plainAct(c, op)
		c, told = next, append(told, number)
	}
	return c, told
}

// plainAgreed asks each two whether the one's part begins the other's.
func plainAgreed(c impl.Cluster) ([]string, bool) {
	if !plainClusterOk(c) {
		return nil, false
	}
	longest := []string{}
	for i, a := range c.Replicas {
		for _, b := range c.Replicas[:i] {
			if plainLeads(a) && plainLeads(b) && a.View == b.View {
				return nil, false
			}
			if !plainBegins(a.Log[:a.Commit], b.Log[:b.Commit]) && !plainBegins(b.Log[:b.Commit], a.Log[:a.Commit]) {
				return nil, false
			}
		}
		if int(a.Commit) > len(longest) {
			longest = a.Log[:a.Commit]
		}
	}
	return longest, true
}

// plainCalm delivers at most so many, and tells how many it did.
func plainCalm(c impl.Cluster, most int) (impl.Cluster, int) {
	if !plainClusterOk(c) {
		return impl.Cluster{}, 0
	}
	count := 0
	for ; count < most && len(c.Net) > 0; count++ {
		c, _ = plainAct(c, deliverAt(0))
	}
	return c, count
}

// oneOfEach is an Op of each Kind.
func oneOfEach() []impl.Op {
	return []impl.Op{submitTo(0, "all"), suspectOf(0), spreadOf(0), deliverAt(0), loseAt(0), twiceAt(0), stopOf(0)}
}

// checkClusterOk asks of one that is wrong what all functions answer of it.
func checkClusterOk(t *testing.T, c impl.Cluster, want bool) {
	t.Helper()
	if impl.ClusterOk(c) != want || plainClusterOk(c) != want {
		t.Errorf("ClusterOk(%s) is %v, not %v", shown(c), impl.ClusterOk(c), want)
		return
	}
	if want {
		return
	}
	zero := impl.Cluster{}
	for _, op := range append(oneOfEach(), submitTo(0, "x")) {
		if got, told := impl.Act(c, op); !sameCluster(got, zero) || told != -2 {
			t.Errorf("Act(%s, %+v): %s, %d", shown(c), op, shown(got), told)
		}
		if got, told := impl.Play(c, []impl.Op{op}); !sameCluster(got, zero) || len(told) > 0 {
			t.Errorf("Play(%s, %+v): %s, %d", shown(c), op, shown(got), told)
		}
	}
	if got, told := impl.Play(c, nil); !sameCluster(got, zero) || len(told) > 0 {
		t.Errorf("Play(%s) of no ops: %s, %d", shown(c), shown(got), told)
	}
	if log, is := impl.Agreed(c); len(log) > 0 || is {
		t.Errorf("Agreed(%s): %.200q, %v", shown(c), log, is)
	}
	if got := impl.Calm(c); !sameCluster(got, zero) {
		t.Errorf("Calm(%s): %s", shown(c), shown(got))
	}
}

func checkAct(t *testing.T, c impl.Cluster, op impl.Op, want impl.Cluster, number int64) {
	t.Helper()
	got, told := impl.Act(c, op)
	if !impl.ClusterOk(c) || !impl.ClusterOk(want) || !sameCluster(got, want) || told != number {
		t.Errorf("Act(%s, %+v):\n%s, %d, not\n%s, %d", shown(c), op, shown(got), told, shown(want), number)
	}
}

// checkRefused: as it is, and -1.
func checkRefused(t *testing.T, c impl.Cluster, op impl.Op) {
	t.Helper()
	checkAct(t, c, op, c, -1)
}

func checkAgreed(t *testing.T, c impl.Cluster, want bool, log ...string) {
	t.Helper()
	// Which goroutine is the first one must not be seen.
	for range 20 {
		got, is := impl.Agreed(c)
		if !impl.ClusterOk(c) || is != want || !slices.Equal(got, log) {
			t.Errorf("Agreed(%s): %.200q, %v, not %.200q, %v", shown(c), got, is, log, want)
			return
		}
	}
}

// rightClusters are of each number of Replicas, and their Replicas of each stand.
func rightClusters() []impl.Cluster {
	full := quietLog(60)
	texts := []string{"all", "key a", "tag b"}
	list := []impl.Cluster{
		freshCluster(1),
		freshCluster(3),
		freshCluster(5),
		freshCluster(1, junk(0, 150)...),
		freshCluster(3, logTo(0, 1, 0, 0), okTo(1, 0, 0, 0), changeTo(2, 1, 1), tellTo(2, 1, 1, 0, 0, "all")),
		freshCluster(5, slices.Repeat(messages(changeTo(4, 1, 1), tellTo(3, 1, 1, 0, 0), logTo(0, 4, 0, 1, "tag b")), 50)...),
		clusterOf(nil, askerOf(0, 1, 4, 2, 0, numbers(0), texts...)),
		clusterOf(messages(logTo(0, 1, 3, 3, texts...)), leaderOf(3, 3, 3, numbers(3, 2, 3), texts...), followerOf(1, 3, 3, 1, texts[:2]...), followerOf(2, 3, 3, 0, texts...)),
		clusterOf(messages(changeTo(0, 1, 4), changeTo(0, 2, 4)), askerOf(0, 3, 4, 3, 1, numbers(0), texts...), followerOf(1, 3, 3, 1, texts...), askerOf(2, 3, 4, 0, 0, numbers(0, 2))),
		clusterOf(nil, leaderOf(3, 9999, 60, numbers(60, 60, 0), full...), askerOf(1, 3, 10000, 9999, 60, numbers(1), full...), withTells(askerOf(2, 3, 5, 4, 0, numbers(1, 2)), tellTo(0, 2, 5, 4, 0, "all"))),
		clusterOf(junk(2, 149), followerOf(0, 3, 10000, 0, full...), leaderOf(3, 10000, 1, numbers(0, 60, 7), full...), askerOf(2, 3, 10000, 0, 0, numbers(0, 1, 2))),
		clusterOf(messages(okTo(1, 0, 5, 3)), leaderOf(5, 5, 0, numbers(3, 0, 1, 0, 0), texts...), followerOf(1, 5, 5, 0, texts...), followerOf(2, 5, 5, 0, "all"), askerOf(3, 5, 6, 5, 0, numbers(3)), followerOf(4, 5, 3, 0, "key a")),
	}
	return list
}

func TestClusterConstants(t *testing.T) {
	kinds := []int64{impl.OpSubmit, impl.OpSuspect, impl.OpSpread, impl.OpDeliver, impl.OpLose, impl.OpTwice, impl.OpStop}
	if impl.MaxNet != 150 || impl.MaxOps != 300 || !slices.Equal(kinds, numbers(1, 2, 3, 4, 5, 6, 7)) {
		t.Fatal(impl.MaxNet, impl.MaxOps, kinds)
	}
}

func TestRightClusters(t *testing.T) {
	for _, c := range rightClusters() {
		checkClusterOk(t, c, true)
		// An empty list and nil are the same value.
		if len(c.Net) == 0 {
			c.Net = []impl.Message{}
			checkClusterOk(t, c, true)
			c.Net = nil
			checkClusterOk(t, c, true)
		}
	}
	checkClusterOk(t, impl.Cluster{}, false)
	checkClusterOk(t, impl.Cluster{Replicas: []impl.Replica{}, Net: []impl.Message{}}, false)
}

func TestClustersByTheNumberOfReplicas(t *testing.T) {
	for count := range 9 {
		for peers := int64(1); peers <= 9; peers++ {
			ones := []impl.Replica{}
			for id := range count {
				one := followerOf(int64(id), peers, 0, 0)
				if id == 0 {
					one.Oks = make([]int64, peers)
				}
				ones = append(ones, one)
			}
			want := int64(count) == peers && (peers == 1 || peers == 3 || peers == 5)
			checkClusterOk(t, clusterOf(nil, ones...), want)
			checkClusterOk(t, clusterOf(junk(0, 3), ones...), want)
		}
	}
	// Those of a right one, and one too few or too many.
	for _, c := range rightClusters() {
		for count := range c.Replicas {
			checkClusterOk(t, clusterOf(nil, c.Replicas[:count]...), false)
			checkClusterOk(t, clusterOf(nil, slices.Delete(slices.Clone(c.Replicas), count, count+1)...), false)
		}
		for _, more := range rightReplicas() {
			checkClusterOk(t, clusterOf(nil, append(slices.Clone(c.Replicas), more)...), false)
		}
		checkClusterOk(t, clusterOf(nil, slices.Repeat(c.Replicas, 2)...), false)
		checkClusterOk(t, clusterOf(nil, slices.Repeat(c.Replicas, 3)...), false)
	}
}

func changedCluster(right impl.Cluster, change func(*impl.Cluster)) impl.Cluster {
	c := deepCluster(right)
	change(&c)
	return c
}

// One that is not right, or of another place, or of other Peers.
func TestClustersWithAWrongReplica(t *testing.T) {
	for _, right := range rightClusters() {
		count := int64(len(right.Replicas))
		for at := range right.Replicas {
			changes := []func(r *impl.Replica){
				func(r *impl.Replica) { *r = impl.Replica{} },
				func(r *impl.Replica) { r.View = -1 },
				func(r *impl.Replica) { r.Last = r.View + 1 },
				func(r *impl.Replica) { r.Normal = !r.Normal },
				func(r *impl.Replica) { r.Commit = int64(len(r.Log)) + 1 },
				func(r *impl.Replica) { r.Commit = -1 },
				func(r *impl.Replica) { r.Log = append(r.Log, "x") },
				func(r *impl.Replica) { r.Log = quietLog(61) },
				func(r *impl.Replica) { r.Oks = append(r.Oks, 0) },
				func(r *impl.Replica) { r.Changes = append(r.Changes, r.Id) },
				func(r *impl.Replica) { r.Tells = append(r.Tells, tellTo(r.Id, r.Id, r.View, r.View+1, 0)) },
				func(r *impl.Replica) { *r, _ = impl.NewReplica(0, count+2) },
				func(r *impl.Replica) { *r, _ = impl.NewReplica(r.Id, count+2) },
				func(r *impl.Replica) { *r, _ = impl.NewReplica(r.Id, count-2) },
			}
			for _, change := range changes {
				checkClusterOk(t, changedCluster(right, func(c *impl.Cluster) { change(&c.Replicas[at]) }), false)
			}
			for _, far := range append(slices.Clone(farNumbers), 5, 6, 7) {
				checkClusterOk(t, changedCluster(right, func(c *impl.Cluster) { c.Replicas[at].Id = far }), false)
				checkClusterOk(t, changedCluster(right, func(c *impl.Cluster) { c.Replicas[at].Peers = far + 1 }), false)
			}
			for id := range count {
				other, _ := impl.NewReplica(id, count)
				checkClusterOk(t, changedCluster(right, func(c *impl.Cluster) { c.Replicas[at] = other }), id == int64(at))
			}
		}
	}
}

func TestClustersWithIdsOutOfOrder(t *testing.T) {
	for _, right := range rightClusters() {
		for i := range right.Replicas {
			for j := range i {
				checkClusterOk(t, changedCluster(right, func(c *impl.Cluster) { c.Replicas[i], c.Replicas[j] = c.Replicas[j], c.Replicas[i] }), false)
				checkClusterOk(t, changedCluster(right, func(c *impl.Cluster) { c.Replicas[i] = c.Replicas[j] }), false)
				checkClusterOk(t, changedCluster(right, func(c *impl.Cluster) { c.Replicas[j] = c.Replicas[i] }), false)
			}
		}
		if len(right.Replicas) > 1 {
			checkClusterOk(t, changedCluster(right, func(c *impl.Cluster) { slices.Reverse(c.Replicas) }), false)
			checkClusterOk(t, changedCluster(right, func(c *impl.Cluster) { c.Replicas = append(c.Replicas[1:], c.Replicas[0]) }), false)
		}
	}
	// All right in themselves, but numbered from 1 on.
	checkClusterOk(t, clusterOf(nil, followerOf(1, 5, 0, 0), followerOf(2, 5, 0, 0), followerOf(3, 5, 0, 0)), false)
	checkClusterOk(t, clusterOf(nil, followerOf(1, 3, 0, 0)), false)
	checkClusterOk(t, clusterOf(nil, leaderOf(3, 0, 0, numbers(0, 0, 0))), false)
	checkClusterOk(t, clusterOf(nil, leaderOf(5, 0, 0, make([]int64, 5)), followerOf(1, 5, 0, 0), followerOf(2, 5, 0, 0)), false)
	checkClusterOk(t, clusterOf(nil, leaderOf(3, 0, 0, numbers(0, 0, 0)), followerOf(1, 3, 0, 0), followerOf(2, 5, 0, 0)), false)
}

func TestClustersByNet(t *testing.T) {
	for _, peers := range []int64{1, 3, 5} {
		for _, count := range []int{0, 1, 2, 60, 61, 149, 150, 151, 152, 300, 5000} {
			checkClusterOk(t, freshCluster(peers, junk(peers-1, count)...), count <= 150)
		}
		for _, to := range append(slices.Clone(farNumbers), 0, 1, 2, 3, 4, 5, 6, 7, 150) {
			is := to >= 0 && to < peers
			for _, m := range []impl.Message{logTo(0, to, 0, 0), okTo(0, to, 0, 0), changeTo(0, to, 1), tellTo(0, to, 1, 0, 0), {To: to}} {
				checkClusterOk(t, freshCluster(peers, m), is)
				checkClusterOk(t, freshCluster(peers, append(junk(0, 149), m)...), is)
				checkClusterOk(t, freshCluster(peers, append(messages(m), junk(0, 149)...)...), is)
				checkClusterOk(t, freshCluster(peers, slices.Insert(junk(0, 20), 7, m)...), is)
			}
		}
		// To one of them is all that is asked of a message.
		for to := range peers {
			for _, far := range farNumbers {
				checkClusterOk(t, freshCluster(peers, impl.Message{Kind: far, To: to}, impl.Message{Kind: 1, From: far, To: to}, impl.Message{Kind: 2, To: to, View: far}, impl.Message{Kind: 3, To: to, Last: far, Commit: far}), true)
			}
			checkClusterOk(t, freshCluster(peers, logTo(0, to, 0, 0, quietLog(61)...), logTo(0, to, 0, 0, "x"), impl.Message{To: to}), true)
		}
	}
}

func TestNewCluster(t *testing.T) {
	for peers := int64(-10); peers < 20; peers++ {
		checkNewCluster(t, peers)
	}
	for _, far := range farNumbers {
		checkNewCluster(t, far)
	}
}

func checkNewCluster(t *testing.T, peers int64) {
	t.Helper()
	c, is := impl.NewCluster(peers)
	want := impl.Cluster{}
	if peers == 1 || peers == 3 || peers == 5 {
		want = freshCluster(peers)
	}
	if is != (len(want.Replicas) > 0) || !sameCluster(c, want) || impl.ClusterOk(c) != is {
		t.Errorf("NewCluster(%d): %s, %v", peers, shown(c), is)
	}
	if is {
		checkAgreed(t, c, true)
	}
}

func TestActSubmit(t *testing.T) {
	// Alone, it is agreed on at once, and nobody is told.
	checkAct(t, freshCluster(1), submitTo(0, "all"), clusterOf(nil, leaderOf(1, 0, 1, numbers(1), "all")), 1)
	first := leaderOf(3, 0, 0, numbers(1, 0, 0), "key h/a")
	told := messages(logTo(0, 1, 0, 0, "key h/a"), logTo(0, 2, 0, 0, "key h/a"))
	c := clusterOf(told, first, followerOf(1, 3, 0, 0), followerOf(2, 3, 0, 0))
	checkAct(t, freshCluster(3), submitTo(0, "key h/a"), c, 1)
	// The second one comes behind what is under way.
	more := slices.Concat(told, messages(logTo(0, 1, 0, 0, "key h/a", "all"), logTo(0, 2, 0, 0, "key h/a", "all")))
	checkAct(t, c, submitTo(0, "all"), clusterOf(more, leaderOf(3, 0, 0, numbers(2, 0, 0), "key h/a", "all"), followerOf(1, 3, 0, 0), followerOf(2, 3, 0, 0)), 2)
	// Where it does not lead, or is none of its servers.
	for server := int64(1); server < 3; server++ {
		checkRefused(t, freshCluster(3), submitTo(server, "all"))
		checkRefused(t, c, submitTo(server, "all"))
	}
	later := clusterOf(nil, followerOf(0, 3, 4, 0), leaderOf(3, 4, 0, numbers(0, 0, 0)), askerOf(2, 3, 5, 4, 0, numbers(2)))
	checkRefused(t, later, submitTo(0, "all"))
	checkRefused(t, later, submitTo(2, "all"))
	checkAct(t, later, submitTo(1, "all"), clusterOf(messages(logTo(1, 0, 4, 0, "all"), logTo(1, 2, 4, 0, "all")), followerOf(0, 3, 4, 0), leaderOf(3, 4, 0, numbers(0, 1, 0), "all"), askerOf(2, 3, 5, 4, 0, numbers(2))), 1)
	// A text that is no Purge, and a log that is full.
	for _, text := range append(slices.Clone(oddTexts), "", "x", "all ", "key", "key a b", "tag "+strings.Repeat("x", 201)) {
		checkRefused(t, freshCluster(3), submitTo(0, text))
		checkRefused(t, freshCluster(1), submitTo(0, text))
	}
	full := clusterOf(nil, leaderOf(1, 0, 0, numbers(59), quietLog(59)...))
	checkAct(t, full, submitTo(0, "all"), clusterOf(nil, leaderOf(1, 0, 60, numbers(60), append(quietLog(59), "all")...)), 60)
	full, _ = impl.Act(full, submitTo(0, "all"))
	checkRefused(t, full, submitTo(0, "all"))
	// Index is not asked for.
	for _, far := range farNumbers {
		op := submitTo(0, "key h/a")
		op.Index = far
		checkAct(t, freshCluster(3), op, c, 1)
	}
}

func TestActSuspect(t *testing.T) {
	asker := askerOf(2, 3, 1, 0, 0, numbers(2))
	checkAct(t, freshCluster(3), suspectOf(2), clusterOf(messages(changeTo(2, 0, 1), changeTo(2, 1, 1)), append(newOnes(3)[:2], asker)...), 0)
	// The one who leads may be the one who asks; what is under way stays ahead.
	was := freshCluster(3, junk(1, 2)...)
	want := clusterOf(append(junk(1, 2), changeTo(0, 1, 1), changeTo(0, 2, 1)), askerOf(0, 3, 1, 0, 0, numbers(0)), followerOf(1, 3, 0, 0), followerOf(2, 3, 0, 0))
	checkAct(t, was, suspectOf(0), want, 0)
	// Alone, it leads at once.
	checkAct(t, freshCluster(1), suspectOf(0), clusterOf(nil, leaderOf(1, 1, 0, numbers(0))), 0)
	// At the last View it is as it is.
	last := clusterOf(junk(0, 1), followerOf(0, 3, 10000, 0), leaderOf(3, 10000, 0, numbers(0, 0, 0)), askerOf(2, 3, 10000, 9999, 0, numbers(2)))
	for server := range int64(3) {
		checkAct(t, last, suspectOf(server), last, 0)
	}
}

func TestActSpread(t *testing.T) {
	c := clusterOf(junk(1, 1), leaderOf(3, 3, 1, numbers(2, 1, 1), "all", "key a"), followerOf(1, 3, 3, 1, "all"), askerOf(2, 3, 4, 3, 0, numbers(1, 2), "tag b"))
	with := func(sent ...impl.Message) impl.Cluster {
		return clusterOf(append(junk(1, 1), sent...), c.Replicas...)
	}
	checkAct(t, c, spreadOf(0), with(logTo(0, 1, 3, 1, "all", "key a"), logTo(0, 2, 3, 1, "all", "key a")), 0)
	checkAct(t, c, spreadOf(1), c, 0)
	checkAct(t, c, spreadOf(2), with(changeTo(2, 0, 4), changeTo(2, 1, 4), tellTo(2, 1, 4, 3, 0, "tag b")), 0)
	checkAct(t, freshCluster(1), spreadOf(0), freshCluster(1), 0)
	checkAct(t, freshCluster(5), spreadOf(0), freshCluster(5, logTo(0, 1, 0, 0), logTo(0, 2, 0, 0), logTo(0, 3, 0, 0), logTo(0, 4, 0, 0)), 0)
}

func TestActStop(t *testing.T) {
	c := clusterOf(junk(2, 2), leaderOf(3, 3, 1, numbers(2, 1, 1), "all", "key a"), followerOf(1, 3, 3, 1, "all"), askerOf(2, 3, 4, 3, 1, numbers(1, 2), "tag b"))
	want := []impl.Replica{leaderOf(3, 3, 0, numbers(2, 0, 0), "all", "key a"), followerOf(1, 3, 3, 0, "all"), askerOf(2, 3, 4, 3, 0, numbers(2), "tag b")}
	for server := range int64(3) {
		stopped := deepCluster(c)
		stopped.Replicas[server] = want[server]
		checkAct(t, c, stopOf(server), stopped, 0)
	}
}

// Each message comes to another server.
func TestActDeliver(t *testing.T) {
	net := messages(logTo(0, 1, 0, 0, "all"), logTo(0, 2, 0, 0, "all"), okTo(1, 0, 0, 1))
	first, second, third := leaderOf(3, 0, 0, numbers(1, 0, 0), "all"), followerOf(1, 3, 0, 0), followerOf(2, 3, 0, 0)
	c := clusterOf(net, first, second, third)
	// What is taken is gone, what is answered comes at the end.
	checkAct(t, c, deliverAt(0), clusterOf(messages(net[1], net[2], okTo(1, 0, 0, 1)), first, followerOf(1, 3, 0, 0, "all"), third), 0)
	checkAct(t, c, deliverAt(1), clusterOf(messages(net[0], net[2], okTo(2, 0, 0, 1)), first, second, followerOf(2, 3, 0, 0, "all")), 0)
	checkAct(t, c, deliverAt(2), clusterOf(messages(net[0], net[1]), leaderOf(3, 0, 1, numbers(1, 1, 0), "all"), second, third), 0)
	// Several are answered.
	asked := freshCluster(3, changeTo(2, 1, 1), okTo(0, 0, 0, 0))
	checkAct(t, asked, deliverAt(0), clusterOf(messages(okTo(0, 0, 0, 0), changeTo(1, 0, 1), changeTo(1, 2, 1)), newOnes(3)[0], withTells(askerOf(1, 3, 1, 0, 0, numbers(1, 2)), tellTo(1, 1, 1, 0, 0)), followerOf(2, 3, 0, 0)), 0)
	// Those that are not right, and those from itself, are taken and passed over.
	for _, m := range append(wrongMessages(logTo(0, 1, 0, 0, "all"), 3), okTo(1, 1, 0, 0), impl.Message{To: 1}, impl.Message{Kind: 5, To: 1}) {
		if m.To == 1 {
			checkAct(t, freshCluster(3, net[1], m, net[2]), deliverAt(1), freshCluster(3, net[1], net[2]), 0)
		}
	}
	checkAct(t, freshCluster(1, okTo(0, 0, 0, 0)), deliverAt(0), freshCluster(1), 0)
	// The last of many.
	many := append(junk(2, 149), logTo(0, 1, 0, 0, "all"))
	checkAct(t, clusterOf(many, first, second, third), deliverAt(149), clusterOf(append(junk(2, 149), okTo(1, 0, 0, 1)), first, followerOf(1, 3, 0, 0, "all"), third), 0)
	// Server is not asked for.
	for _, far := range append(slices.Clone(farNumbers), 2, 3) {
		op := deliverAt(2)
		op.Server = far
		checkAct(t, c, op, clusterOf(messages(net[0], net[1]), leaderOf(3, 0, 1, numbers(1, 1, 0), "all"), second, third), 0)
	}
}

func TestActLoseAndTwice(t *testing.T) {
	net := messages(logTo(0, 1, 0, 0, "all"), changeTo(1, 2, 1), okTo(1, 0, 0, 1))
	c := freshCluster(3, net...)
	checkAct(t, c, loseAt(0), freshCluster(3, net[1], net[2]), 0)
	checkAct(t, c, loseAt(1), freshCluster(3, net[0], net[2]), 0)
	checkAct(t, c, loseAt(2), freshCluster(3, net[0], net[1]), 0)
	for at := range int64(3) {
		checkAct(t, c, twiceAt(at), freshCluster(3, append(slices.Clone(net), net[at])...), 0)
	}
	one := freshCluster(5, tellTo(0, 4, 4, 1, 1, "all"))
	checkAct(t, one, loseAt(0), freshCluster(5), 0)
	checkAct(t, one, twiceAt(0), freshCluster(5, one.Net[0], one.Net[0]), 0)
	// What is not right may be doubled and lost, too.
	odd := freshCluster(3, impl.Message{Kind: greatest, From: least, To: 2, View: -1, Log: []string{"x"}})
	checkAct(t, odd, twiceAt(0), freshCluster(3, odd.Net[0], odd.Net[0]), 0)
	checkAct(t, odd, loseAt(0), freshCluster(3), 0)
	full := freshCluster(3, append(junk(2, 149), net[0])...)
	checkAct(t, full, loseAt(149), freshCluster(3, junk(2, 149)...), 0)
	checkAct(t, full, loseAt(0), freshCluster(3, full.Net[1:]...), 0)
	for _, far := range append(slices.Clone(farNumbers), 3, 4) {
		lost, twice := loseAt(0), twiceAt(0)
		lost.Server, twice.Server = far, far
		checkAct(t, one, lost, freshCluster(5), 0)
		checkAct(t, one, twice, freshCluster(5, one.Net[0], one.Net[0]), 0)
	}
}

// What is sent beyond MaxNet is lost, and what was sent ahead of it is not.
func TestActBeyondMaxNet(t *testing.T) {
	for _, peers := range []int64{3, 5} {
		others := int(peers) - 1
		for under := 143; under <= 150; under++ {
			room := min(150-under, others)
			net := junk(1, under)
			c := freshCluster(peers, net...)
			changes, logs, spread := []impl.Message{}, []impl.Message{}, []impl.Message{}
			for to := int64(1); to < peers; to++ {
				changes = append(changes, changeTo(0, to, 1))
				logs = append(logs, logTo(0, to, 0, 0, "all"))
				spread = append(spread, logTo(0, to, 0, 0))
			}
			with := func(first impl.Replica, sent []impl.Message) impl.Cluster {
				return clusterOf(slices.Concat(net, sent[:room]), append([]impl.Replica{first}, newOnes(peers)[1:]...)...)
			}
			oks := make([]int64, peers)
			oks[0] = 1
			checkAct(t, c, submitTo(0, "all"), with(leaderOf(peers, 0, 0, oks, "all"), logs), 1)
			checkAct(t, c, suspectOf(0), with(askerOf(0, peers, 1, 0, 0, numbers(0)), changes), 0)
			checkAct(t, c, spreadOf(0), with(newOnes(peers)[0], spread), 0)
			if under < 150 {
				checkAct(t, c, twiceAt(3), freshCluster(peers, append(slices.Clone(net), net[3])...), 0)
			} else {
				checkAct(t, c, twiceAt(3), c, 0)
				checkAct(t, c, twiceAt(149), c, 0)
			}
			// One is taken, so there is room for one answer more.
			net = append(junk(1, under-1), changeTo(0, peers-1, 2))
			asker := askerOf(peers-1, peers, 2, 0, 0, numbers(0, peers-1))
			sent := []impl.Message{}
			for to := range peers - 1 {
				sent = append(sent, changeTo(peers-1, to, 2))
			}
			if peers == 3 {
				asker = withTells(asker, tellTo(2, 2, 2, 0, 0))
			}
			ones := append(newOnes(peers)[:peers-1], asker)
			room = min(150-under+1, others)
			checkAct(t, freshCluster(peers, net...), deliverAt(int64(under)-1), clusterOf(append(junk(1, under-1), sent[:room]...), ones...), 0)
		}
	}
}

func TestActThatIsRefused(t *testing.T) {
	for _, c := range rightClusters() {
		servers, under := int64(len(c.Replicas)), int64(len(c.Net))
		for _, kind := range append(slices.Clone(farNumbers), 0, 8, 9, 255, 256, 257, 1<<32+4) {
			for server := range servers {
				checkRefused(t, c, impl.Op{Kind: kind, Server: server, Text: "all"})
			}
		}
		for _, far := range append(slices.Clone(farNumbers), servers, servers+1, 5, 6) {
			for _, kind := range []int64{1, 2, 3, 7} {
				checkRefused(t, c, impl.Op{Kind: kind, Server: far, Text: "all"})
				checkRefused(t, c, impl.Op{Kind: kind, Server: far, Index: far, Text: "all"})
			}
		}
		for _, far := range append(slices.Clone(farNumbers), under, under+1, 150, 151) {
			for _, kind := range []int64{4, 5, 6} {
				checkRefused(t, c, impl.Op{Kind: kind, Index: far})
				checkRefused(t, c, impl.Op{Kind: kind, Server: far, Index: far, Text: "all"})
			}
		}
	}
}

// Of a cluster that is not right it is -2, whatever is asked.
func TestActOfAWrongCluster(t *testing.T) {
	wrong := []impl.Cluster{
		{},
		freshCluster(3, junk(0, 151)...),
		freshCluster(3, okTo(0, 3, 0, 0)),
		clusterOf(nil, newOnes(3)[:2]...),
		clusterOf(nil, newOnes(5)[:3]...),
	}
	for _, c := range wrong {
		for _, a := range []int64{0, 1, 2, 3, 150, 151, -1, least, greatest} {
			for kind := int64(-1); kind < 10; kind++ {
				got, told := impl.Act(c, impl.Op{Kind: kind, Server: a, Index: a, Text: "all"})
				if !sameCluster(got, impl.Cluster{}) || told != -2 {
					t.Errorf("Act(%s) of Kind %d, %d: %s, %d", shown(c), kind, a, shown(got), told)
				}
			}
		}
	}
}

func checkPlay(t *testing.T, c impl.Cluster, list []impl.Op) (impl.Cluster, []int64) {
	t.Helper()
	got, told := impl.Play(c, list)
	want, plain := plainPlay(c, list)
	if !sameCluster(got, want) || !slices.Equal(told, plain) {
		t.Fatalf("Play(%s, %.200s):\n%s, %d, not\n%s, %d", shown(c), fmt.Sprint(list), shown(got), told, shown(want), plain)
	}
	return got, told
}

func TestPlay(t *testing.T) {
	// No ops.
	for _, c := range rightClusters() {
		for _, list := range [][]impl.Op{nil, {}} {
			if got, told := impl.Play(c, list); !sameCluster(got, c) || len(told) != 0 {
				t.Errorf("Play(%s) of no ops: %s, %d", shown(c), shown(got), told)
			}
		}
		checkPlay(t, c, oneOfEach())
	}
	// In order, and those that are refused among others.
	list := []impl.Op{submitTo(0, "all"), submitTo(1, "all"), submitTo(0, "x"), {}, {Kind: 8}, deliverAt(2), deliverAt(-1), deliverAt(1), stopOf(3), submitTo(0, "key a"), deliverAt(1), twiceAt(9), loseAt(5), suspectOf(-1), spreadOf(greatest), loseAt(0)}
	c, told := checkPlay(t, freshCluster(3), list)
	if !slices.Equal(told, numbers(1, -1, -1, -1, -1, -1, -1, 0, -1, 2, 0, -1, -1, -1, -1, 0)) {
		t.Errorf("Play tells %d", told)
	}
	ones := []impl.Replica{leaderOf(3, 0, 1, numbers(2, 0, 1), "all", "key a"), followerOf(1, 3, 0, 0), followerOf(2, 3, 0, 0, "all")}
	if !sameCluster(c, clusterOf(messages(logTo(0, 1, 0, 0, "all", "key a"), logTo(0, 2, 0, 0, "all", "key a")), ones...)) {
		t.Errorf("Play: %s", shown(c))
	}
	// Nobody is told of those who are refused alone.
	if c, told := checkPlay(t, freshCluster(5), make([]impl.Op, 300)); !sameCluster(c, freshCluster(5)) || !slices.Equal(told, slices.Repeat(numbers(-1), 300)) {
		t.Errorf("%s, %d", shown(c), told)
	}
}

func TestPlayAtMaxOps(t *testing.T) {
	for _, count := range []int{1, 2, 59, 60, 61, 100, 150, 299, 300, 301, 302, 600, 5000} {
		list := slices.Repeat([]impl.Op{submitTo(0, "all")}, count)
		c, told := checkPlay(t, freshCluster(1), list)
		if count > 300 {
			if !sameCluster(c, impl.Cluster{}) || len(told) > 0 {
				t.Errorf("Play of %d: %s, %d", count, shown(c), told)
			}
			continue
		}
		// There is room for 60.
		want, last := min(count, 60), int64(-1)
		if count <= 60 {
			last = int64(count)
		}
		if len(told) != count || len(c.Replicas) != 1 || len(c.Replicas[0].Log) != want || told[count-1] != last {
			t.Errorf("Play of %d: %s, %d", count, shown(c), told)
		}
		checkPlay(t, freshCluster(3), slices.Repeat([]impl.Op{suspectOf(2)}, count))
	}
	// Neither right nor few enough.
	wrong := freshCluster(3, okTo(0, 3, 0, 0))
	for _, count := range []int{0, 1, 300, 301} {
		checkPlay(t, wrong, make([]impl.Op, count))
	}
}

func TestPlayOfAStory(t *testing.T) {
	c, told := checkPlay(t, freshCluster(3), []impl.Op{
		submitTo(0, "all"), deliverAt(0), deliverAt(1), submitTo(0, "key a"), loseAt(1), loseAt(1),
		stopOf(0), suspectOf(2), deliverAt(2), twiceAt(3), loseAt(0), deliverAt(0), loseAt(9),
	})
	if slices.Contains(told[:12], -1) || told[12] != -1 {
		t.Errorf("%d", told)
	}
	checkClusterOk(t, c, true)
	c = impl.Calm(c)
	if len(c.Net) != 0 || !plainLeads(c.Replicas[1]) || c.Replicas[1].View != 1 {
		t.Errorf("%s", shown(c))
	}
	checkAgreed(t, c, true, "all", "key a")
}

func TestAgreed(t *testing.T) {
	texts := []string{"all", "key a", "tag b"}
	// All agree.
	for count := range int64(4) {
		checkAgreed(t, clusterOf(nil, leaderOf(3, 0, count, numbers(3, 3, 3), texts...), followerOf(1, 3, 0, count, texts...), followerOf(2, 3, 0, count, texts...)), true, texts[:count]...)
		checkAgreed(t, clusterOf(nil, leaderOf(1, 4, count, numbers(3), texts...)), true, texts[:count]...)
	}
	// Nobody agrees on anything, whatever stands in the logs.
	checkAgreed(t, freshCluster(1), true)
	checkAgreed(t, freshCluster(3, junk(0, 150)...), true)
	checkAgreed(t, freshCluster(5), true)
	checkAgreed(t, clusterOf(nil, leaderOf(3, 0, 0, numbers(1, 0, 0), "all"), followerOf(1, 3, 0, 0, "key a"), followerOf(2, 3, 0, 0)), true)
	// Some have agreed on less: each number at each place.
	for a := range int64(4) {
		for b := range int64(4) {
			for c := range int64(4) {
				most := max(a, b, c)
				checkAgreed(t, clusterOf(nil, leaderOf(3, 0, a, numbers(a, 0, 0), texts[:a]...), followerOf(1, 3, 0, b, texts[:b]...), followerOf(2, 3, 0, c, texts[:c]...)), true, texts[:most]...)
				checkAgreed(t, clusterOf(nil, leaderOf(3, 3, a, numbers(3, 0, 0), texts...), followerOf(1, 3, 2, b, texts...), askerOf(2, 3, 5, 3, c, numbers(2), texts...)), true, texts[:most]...)
			}
		}
	}
	// What is not agreed on may part.
	checkAgreed(t, clusterOf(nil, leaderOf(3, 0, 1, numbers(2, 0, 0), "all", "key a"), followerOf(1, 3, 0, 1, "all", "key b"), followerOf(2, 3, 0, 0, "tag c", "tag d")), true, "all")
	full := quietLog(60)
	checkAgreed(t, clusterOf(nil, leaderOf(3, 0, 60, numbers(60, 60, 60), full...), followerOf(1, 3, 0, 59, full...), followerOf(2, 3, 0, 0)), true, full...)
	five := newOnes(5)
	five[4] = followerOf(4, 5, 0, 2, texts...)
	checkAgreed(t, clusterOf(nil, five...), true, texts[:2]...)
}

func TestAgreedWhereTwoPart(t *testing.T) {
	logs := [][]string{{"all"}, {"all", "key a"}, {"key a"}, {"key a", "all"}, {"all", "tag b"}, {"all", "key a", "key a"}, {}}
	begins := func(a, b []string) bool { return plainBegins(a, b) || plainBegins(b, a) }
	parted := 0
	for _, a := range logs {
		for _, b := range logs {
			for _, d := range logs {
				c := clusterOf(nil, leaderOf(3, 0, int64(len(a)), numbers(int64(len(a)), 0, 0), a...), followerOf(1, 3, 0, int64(len(b)), b...), followerOf(2, 3, 0, int64(len(d)), d...))
				longest := a
				for _, other := range [][]string{b, d} {
					if len(other) > len(longest) {
						longest = other
					}
				}
				if begins(a, b) && begins(b, d) && begins(a, d) {
					checkAgreed(t, c, true, longest...)
				} else {
					parted++
					checkAgreed(t, c, false)
				}
			}
		}
	}
	if parted < 100 {
		t.Errorf("%d part only", parted)
	}
	// One letter, at the end of a full log, of one of five.
	full := quietLog(60)
	other := append(slices.Clone(full[:59]), full[59]+"x")
	for at := range int64(5) {
		ones := []impl.Replica{leaderOf(5, 0, 60, numbers(60, 0, 0, 0, 0), full...)}
		for id := int64(1); id < 5; id++ {
			ones = append(ones, followerOf(id, 5, 0, 60, full...))
		}
		checkAgreed(t, clusterOf(nil, ones...), true, full...)
		ones[at].Log = other
		checkAgreed(t, clusterOf(nil, ones...), false)
		ones[at].Commit = 59
		checkAgreed(t, clusterOf(nil, ones...), true, full...)
	}
}

func TestAgreedWhereTwoLead(t *testing.T) {
	// In one View there is but one who may lead, so what has two is not right.
	for view := range int64(3) {
		for second := range int64(3) {
			ones := []impl.Replica{}
			for id := range int64(3) {
				one := followerOf(id, 3, view, 0)
				if id == view || id == second {
					one.Oks = numbers(0, 0, 0)
				}
				ones = append(ones, one)
			}
			if second == view {
				checkAgreed(t, clusterOf(nil, ones...), true)
			} else {
				checkClusterOk(t, clusterOf(nil, ones...), false)
			}
		}
	}
	// In different ones.
	two := clusterOf(nil, leaderOf(3, 3, 1, numbers(2, 0, 0), "all", "key a"), leaderOf(3, 4, 2, numbers(0, 2, 2), "all", "key b"), followerOf(2, 3, 4, 1, "all", "key b"))
	checkAgreed(t, two, true, "all", "key b")
	three := clusterOf(nil, leaderOf(3, 0, 0, numbers(0, 0, 0)), leaderOf(3, 1, 1, numbers(0, 1, 0), "all"), leaderOf(3, 5, 1, numbers(0, 0, 1), "all"))
	checkAgreed(t, three, true, "all")
	// These part.
	two.Replicas[0].Commit = 2
	checkAgreed(t, two, false)
	three.Replicas[2].Log = []string{"key a"}
	checkAgreed(t, three, false)
}

func checkCalm(t *testing.T, c impl.Cluster) impl.Cluster {
	t.Helper()
	got := impl.Calm(c)
	if want, _ := plainCalm(c, 400); !sameCluster(got, want) {
		t.Fatalf("Calm(%s):\n%s, not\n%s", shown(c), shown(got), shown(want))
	}
	return got
}

func TestCalm(t *testing.T) {
	for _, c := range rightClusters() {
		calm := checkCalm(t, c)
		if len(c.Net) == 0 && !sameCluster(calm, c) {
			t.Errorf("Calm(%s), which has no message: %s", shown(c), shown(calm))
		}
		checkClusterOk(t, calm, true)
	}
	c, _ := impl.Play(freshCluster(3), []impl.Op{submitTo(0, "all"), submitTo(0, "key a")})
	c = checkCalm(t, c)
	want := []impl.Replica{leaderOf(3, 0, 2, numbers(2, 2, 2), "all", "key a"), followerOf(1, 3, 0, 0, "all", "key a"), followerOf(2, 3, 0, 0, "all", "key a")}
	if !sameCluster(c, clusterOf(nil, want...)) {
		t.Errorf("%s", shown(c))
	}
	// Those that do not lead are told what is agreed on by what comes next.
	c, _ = impl.Act(c, spreadOf(0))
	c = checkCalm(t, c)
	if c.Replicas[1].Commit != 2 || c.Replicas[2].Commit != 2 || len(c.Net) != 0 {
		t.Errorf("%s", shown(c))
	}
	// What is not right is delivered as well.
	if c := checkCalm(t, freshCluster(3, impl.Message{To: 2}, impl.Message{Kind: 9, To: 1})); !sameCluster(c, freshCluster(3)) {
		t.Errorf("%s", shown(c))
	}
}

// askingMore are messages by which one View after another is asked for, so that many more are sent.
func askingMore(peers, count int64) []impl.Message {
	list := []impl.Message{}
	for i := range count {
		list = append(list, changeTo((i/30+1)%peers, i/30%peers, 1+i))
	}
	return list
}

// At most 400 are delivered: those for which that is just enough, and those for which it is one too few.
func TestCalmAtItsLimit(t *testing.T) {
	checked := 0
	for _, peers := range []int64{3, 5} {
		for asks := range int64(30) {
			_, base := plainCalm(freshCluster(peers, askingMore(peers, asks)...), 2000)
			for want := 397; want <= 403; want++ {
				// A log is delivered and answered once, junk is not answered.
				logs, rest := (want-base)/2, (want-base)%2
				if logs < 0 || logs+rest+int(asks) > 150 {
					continue
				}
				net := slices.Concat(slices.Repeat(messages(logTo(0, 1, 0, 0, "all")), logs), junk(0, rest), askingMore(peers, asks))
				c := freshCluster(peers, net...)
				if _, needed := plainCalm(c, 2000); needed != want {
					continue
				}
				checked++
				calm := checkCalm(t, c)
				checkClusterOk(t, calm, true)
				if left := len(calm.Net); want <= 400 && left != 0 || want > 400 && !lies(int64(left), 1, int64(want)-400) {
					t.Errorf("%d are left of %d", len(calm.Net), want)
				}
			}
		}
	}
	if checked < 50 {
		t.Errorf("%d checked only", checked)
	}
}

// One that is not calm yet goes on where it was left.
func TestCalmOfOneThatIsNotCalm(t *testing.T) {
	c := freshCluster(5, askingMore(5, 150)...)
	first := checkCalm(t, c)
	checkClusterOk(t, first, true)
	if len(first.Net) == 0 {
		t.Error("it was calm too soon")
	}
	for count := 0; len(first.Net) > 0 && count < 50; count++ {
		first = checkCalm(t, first)
	}
	if want, _ := plainCalm(c, 100000); !sameCluster(first, want) || len(want.Net) > 0 {
		t.Errorf("%s, not %s", shown(first), shown(want))
	}
	// Sooner, by many that are not answered, or answered once each.
	for _, net := range [][]impl.Message{junk(2, 150), slices.Repeat(messages(logTo(0, 1, 0, 0, "all")), 150)} {
		if calm := checkCalm(t, freshCluster(3, net...)); len(calm.Net) != 0 {
			t.Errorf("%d are left", len(calm.Net))
		}
	}
}

// drawnServer is right, and has this Id and these Peers.
func drawnServer(source *rand.Rand, id, peers int64) impl.Replica {
	for {
		r := drawnReplica(source)
		if r.Id == id && r.Peers == peers {
			return r
		}
	}
}

// drawnCluster is right; its Net is mostly short, and often full or nearly so.
func drawnCluster(source *rand.Rand) impl.Cluster {
	c := impl.Cluster{}
	peers := []int64{1, 3, 3, 3, 5}[source.Intn(5)]
	for id := range peers {
		c.Replicas = append(c.Replicas, drawnServer(source, id, peers))
	}
	count := source.Intn(6)
	for range count {
		m := drawnMessage(source, c.Replicas[source.Int63n(peers)])
		m.To = min(max(m.To, 0), peers-1)
		c.Net = append(c.Net, m)
	}
	if source.Intn(3) == 0 {
		more := junk(source.Int63n(peers), 150-count-source.Intn(7))
		if count > 0 && source.Intn(2) == 0 {
			more = slices.Repeat(c.Net, 150/count)
		}
		at := source.Intn(len(more) + 1)
		c.Net = slices.Concat(more[:at], c.Net, more[at:])
		c.Net = c.Net[:min(len(c.Net), 150)]
	}
	return c
}

// drawnOp mostly asks for a Server or a message that is there.
func drawnOp(source *rand.Rand, c impl.Cluster) impl.Op {
	op := impl.Op{Kind: 1 + source.Int63n(7), Server: source.Int63n(int64(len(c.Replicas)) + 1), Index: source.Int63n(int64(len(c.Net)) + 1)}
	op.Text = []string{"all", "key a", "tag t", "begin k", "x", ""}[source.Intn(6)]
	switch source.Intn(40) {
	case 0:
		op.Kind = farNumbers[source.Intn(len(farNumbers))]
	case 1:
		op.Server = farNumbers[source.Intn(len(farNumbers))]
	case 2:
		op.Index = farNumbers[source.Intn(len(farNumbers))]
	}
	return op
}

// checkActsOfCluster holds all functions against their second tellings.
func checkActsOfCluster(t *testing.T, c impl.Cluster, list ...impl.Op) {
	t.Helper()
	if is := impl.ClusterOk(c); is != plainClusterOk(c) {
		t.Fatalf("ClusterOk(%s): %v", shown(c), is)
	}
	for _, op := range list {
		got, told := impl.Act(c, op)
		if want, plain := plainAct(c, op); !sameCluster(got, want) || told != plain {
			t.Fatalf("Act(%s, %+v):\n%s, %d, not\n%s, %d", shown(c), op, shown(got), told, shown(want), plain)
		}
	}
	checkPlay(t, c, list)
	log, is := impl.Agreed(c)
	if want, whole := plainAgreed(c); !slices.Equal(log, want) || is != whole {
		t.Fatalf("Agreed(%s): %.200q, %v, not %.200q, %v", shown(c), log, is, want, whole)
	}
}

func TestDrawnClusters(t *testing.T) {
	source := rand.New(rand.NewSource(54))
	seen := map[string]int{}
	for round := range 4000 {
		c := drawnCluster(source)
		if !plainClusterOk(c) {
			t.Fatalf("%s was drawn", shown(c))
		}
		ops := []impl.Op{}
		for range 6 {
			op := drawnOp(source, c)
			ops = append(ops, op)
			got, told := impl.Act(c, op)
			checkClusterOk(t, got, true)
			change := "other"
			if sameCluster(got, c) {
				change = "as it is"
			}
			seen[fmt.Sprintf("kind %d, %s, %v", op.Kind, change, told >= 0)]++
			if len(c.Net) == 150 && len(got.Net) == 150 && told >= 0 {
				seen[fmt.Sprintf("kind %d, full", op.Kind)]++
			}
		}
		checkActsOfCluster(t, c, ops...)
		if round%20 == 0 {
			checkCalm(t, c)
		}
		_, is := impl.Agreed(c)
		seen[fmt.Sprint("agreed ", is)]++
	}
	for _, change := range []string{
		"kind 1, other, true", "kind 1, as it is, false", "kind 2, other, true", "kind 2, as it is, true", "kind 2, as it is, false", "kind 3, other, true", "kind 3, as it is, true", "kind 3, as it is, false",
		"kind 4, other, true", "kind 4, as it is, false", "kind 5, other, true", "kind 5, as it is, false", "kind 6, other, true", "kind 6, as it is, false", "kind 7, other, true", "kind 7, as it is, true", "kind 7, as it is, false",
		"kind 1, full", "kind 2, full", "kind 3, full", "kind 4, full", "kind 6, full", "agreed true", "agreed false",
	} {
		if seen[change] < 30 {
			t.Errorf("%s: %d times only", change, seen[change])
		}
	}
}

// A cluster that was right is made wrong at one place or none, and all is asked of it.
func TestDrawnClustersThatMayBeWrong(t *testing.T) {
	source := rand.New(rand.NewSource(55))
	right, wrong := 0, 0
	for range 4000 {
		c, other := deepCluster(drawnCluster(source)), drawnCluster(source)
		far := append(slices.Clone(farNumbers), 0, 1, 2, 3, 4, 5, 6)[source.Intn(len(farNumbers)+7)]
		at := source.Intn(len(c.Replicas))
		r := &c.Replicas[at]
		switch source.Intn(10) {
		case 0:
			*r = other.Replicas[source.Intn(len(other.Replicas))]
		case 1:
			c.Replicas = append(c.Replicas, other.Replicas...)
		case 2:
			c.Replicas = slices.Delete(c.Replicas, at, at+1)
		case 3:
			c.Net = other.Net
		case 4:
			c.Net = append(c.Net, other.Net...)
		case 5:
			if len(c.Net) > 0 {
				*[]*int64{&c.Net[0].Kind, &c.Net[0].From, &c.Net[0].To, &c.Net[0].To, &c.Net[0].To, &c.Net[0].View}[source.Intn(6)] = far
			}
		case 6:
			*[]*int64{&r.Id, &r.Peers, &r.View, &r.Last, &r.Commit}[source.Intn(5)] = far
		case 7:
			*r = drawnReplica(source)
		case 8:
			r.Normal = !r.Normal
		}
		op := impl.Op{Kind: 1 + source.Int63n(7), Server: source.Int63n(6), Index: source.Int63n(6), Text: "all"}
		checkActsOfCluster(t, c, op)
		if plainClusterOk(c) {
			right++
		} else {
			wrong++
			checkClusterOk(t, c, false)
		}
	}
	if right < 500 || wrong < 1500 {
		t.Errorf("%d right, %d wrong only", right, wrong)
	}
}

// tale is a cluster that was new once, what it was asked since, and the longest that was agreed on.
type tale struct {
	impl.Cluster
	t      *testing.T
	ops    []impl.Op
	told   []int64
	agreed []string
}

// do asks for one Op, and holds what comes of it against all that the promise says.
func (s *tale) do(op impl.Op) {
	s.t.Helper()
	next, told := impl.Act(s.Cluster, op)
	if told == -2 || !impl.ClusterOk(next) || !plainClusterOk(next) {
		s.t.Fatalf("after %+v %s became %s", s.ops, shown(s.Cluster), shown(next))
	}
	s.Cluster, s.ops, s.told = next, append(s.ops, op), append(s.told, told)
	views := map[int64]bool{}
	for _, r := range next.Replicas {
		if plainLeads(r) && views[r.View] {
			s.t.Fatalf("after %+v two lead in View %d", s.ops, r.View)
		}
		views[r.View] = views[r.View] || plainLeads(r)
	}
	log, is := impl.Agreed(next)
	if !is || !plainBegins(log, s.agreed[:min(len(s.agreed), len(log))]) {
		s.t.Fatalf("after %+v: %q, %v, and %q was agreed on", s.ops, log, is, s.agreed)
	}
	if len(log) > len(s.agreed) {
		s.agreed = log
	}
}

// drawn is an Op that a tale may go on with; every text is one of its own.
func (s *tale) drawn(source *rand.Rand) impl.Op {
	servers := int64(len(s.Replicas))
	op := impl.Op{Server: source.Int63n(servers), Text: fmt.Sprint("key k", len(s.ops))}
	if len(s.Net) > 0 {
		op.Index = source.Int63n(int64(len(s.Net)))
	}
	chances := []int64{4, 4, 4, 4, 4, 4, 4, 4, 4, 5, 5, 6, 1, 1, 1, 2, 3, 3, 7}
	op.Kind = chances[source.Intn(len(chances))]
	if op.Kind == 1 && source.Intn(4) > 0 {
		for id, r := range s.Replicas {
			if plainLeads(r) {
				op.Server = int64(id)
			}
		}
	}
	return op
}

// heal loses all that is under way, and makes one lead whom all follow.
func (s *tale) heal() {
	s.t.Helper()
	for len(s.Net) > 0 {
		s.do(loseAt(int64(len(s.Net)) - 1))
	}
	latest := int64(0)
	for id, r := range s.Replicas {
		if r.View > s.Replicas[latest].View {
			latest = int64(id)
		}
	}
	s.do(suspectOf(latest))
	for len(s.Net) > 0 {
		s.do(deliverAt(0))
	}
}

// ONE LOG: whatever is lost, doubled or reordered and whoever stops, what was agreed on once is agreed on for good.
func TestOneLogByScripts(t *testing.T) {
	source := rand.New(rand.NewSource(56))
	longest, views, fell := 0, int64(0), 0
	for round := range 1200 {
		peers, most := int64(3), 100
		if round%4 == 3 {
			// More servers, or more Ops, than are promised.
			peers, most = []int64{1, 3, 5}[round/4%3], 300
		}
		fresh, _ := impl.NewCluster(peers)
		s := &tale{Cluster: fresh, t: t}
		for range 1 + source.Intn(most) {
			s.do(s.drawn(source))
		}
		if got, told := impl.Play(fresh, s.ops); !sameCluster(got, s.Cluster) || !slices.Equal(told, s.told) {
			t.Fatalf("Play of %+v: %s, %d, not %s, %d", s.ops, shown(got), told, shown(s.Cluster), s.told)
		}
		if log, _ := impl.Agreed(s.Cluster); len(log) < len(s.agreed) {
			// Those who knew it have stopped.
			fell++
		}
		s.heal()
		if log, is := impl.Agreed(s.Cluster); !is || !plainBegins(log, s.agreed) {
			t.Fatalf("after %+v: %q, %v, and %q was agreed on", s.ops, log, is, s.agreed)
		}
		longest = max(longest, len(s.agreed))
		views = max(views, s.Replicas[0].View)
	}
	if longest < 15 || views < 15 || fell < 20 {
		t.Errorf("%d agreed on, %d Views, %d that fell only", longest, views, fell)
	}
}

func clusterMemory(c impl.Cluster) memory {
	all := memory{messages: [][]impl.Message{c.Net}}
	for _, r := range c.Replicas {
		one := memoryOf(r, nil)
		all.logs, all.numbers, all.messages = append(all.logs, one.logs...), append(all.numbers, one.numbers...), append(all.messages, one.messages...)
	}
	for _, m := range c.Net[:cap(c.Net)] {
		all.logs = append(all.logs, m.Log)
	}
	return all
}

func roomyCluster(c impl.Cluster) impl.Cluster {
	ones := make([]impl.Replica, len(c.Replicas)+2)
	for i := range ones {
		ones[i] = followerOf(1, 3, 0, 0, "behind it")
	}
	for i, r := range c.Replicas {
		ones[i] = roomyReplica(r)
	}
	net := make([]impl.Message, len(c.Net)+9)
	for i := range net {
		net[i] = changeTo(1, 2, 3)
	}
	for i, m := range c.Net {
		net[i] = roomyMessage(m)
	}
	return impl.Cluster{Replicas: ones[:len(c.Replicas)], Net: net[:len(c.Net)]}
}

// wholeCluster has what stands in the room behind its lists, too, in new memory.
func wholeCluster(c impl.Cluster) impl.Cluster {
	whole := impl.Cluster{Net: slices.Clone(c.Net[:cap(c.Net)])}
	for _, r := range c.Replicas[:cap(c.Replicas)] {
		whole.Replicas = append(whole.Replicas, wholeReplica(r))
	}
	for i, m := range whole.Net {
		whole.Net[i].Log = m.Log[:cap(m.Log)]
	}
	return deepCluster(whole)
}

// sameReplicaMemory tells whether the lists of Replicas themselves lie in one place.
func sameReplicaMemory(a, b impl.Cluster) bool {
	for i := range a.Replicas[:cap(a.Replicas)] {
		for j := range b.Replicas[:cap(b.Replicas)] {
			if &a.Replicas[:cap(a.Replicas)][i] == &b.Replicas[:cap(b.Replicas)][j] {
				return true
			}
		}
	}
	return false
}

func TestClustersStayAndAnswersAreNewMemory(t *testing.T) {
	source := rand.New(rand.NewSource(57))
	given := rightClusters()
	for range 250 {
		given = append(given, drawnCluster(source))
	}
	for number, one := range given {
		// A long Net makes this slow.
		one.Net = one.Net[:min(len(one.Net), 12)]
		if number%12 == 0 {
			one.Replicas = one.Replicas[1:]
		}
		c := roomyCluster(one)
		ops := []impl.Op{}
		for _, op := range oneOfEach() {
			op.Text = strings.Clone(op.Text)
			op.Server = source.Int63n(int64(len(one.Replicas)) + 1)
			op.Index = source.Int63n(int64(len(one.Net)) + 1)
			ops = append(ops, op)
		}
		// Each message is delivered, doubled and delivered again, each server spread.
		for range one.Net {
			ops = append(ops, twiceAt(0), deliverAt(0))
		}
		for id := range one.Replicas {
			ops = append(ops, spreadOf(int64(id)))
		}
		was, wereOps := wholeCluster(c), slices.Clone(ops)
		taken := clusterMemory(c)
		for i := range ops {
			taken.logs = append(taken.logs, []string{ops[i].Text})
		}
		acts := []func() (impl.Cluster, []int64, []string){
			func() (impl.Cluster, []int64, []string) { next, told := impl.Play(c, ops); return next, told, nil },
			func() (impl.Cluster, []int64, []string) { return impl.Calm(c), nil, nil },
			func() (impl.Cluster, []int64, []string) {
				log, _ := impl.Agreed(c)
				return impl.Cluster{}, nil, log
			},
			func() (impl.Cluster, []int64, []string) {
				next, _ := impl.NewCluster(int64(len(c.Replicas)))
				return next, nil, nil
			},
		}
		for _, op := range ops[:7] {
			acts = append(acts, func() (impl.Cluster, []int64, []string) { next, _ := impl.Act(c, op); return next, nil, nil })
		}
		for _, act := range acts {
			impl.ClusterOk(c)
			next, told, log := act()
			again, toldAgain, logAgain := act()
			first, second := clusterMemory(next), clusterMemory(again)
			first.numbers, second.numbers = append(first.numbers, told), append(second.numbers, toldAgain)
			first.logs, second.logs = append(first.logs, log), append(second.logs, logAgain)
			checkApart(t, first, taken, false)
			checkApart(t, first, second, false)
			checkApart(t, first, first, true)
			if sameReplicaMemory(next, c) || sameReplicaMemory(next, again) {
				t.Fatalf("two have one list of Replicas: %s", shown(next))
			}
			wanted, wantedTold, wantedLog := deepCluster(again), slices.Clone(toldAgain), slices.Clone(logAgain)
			first.writeOver()
			clear(next.Replicas[:cap(next.Replicas)])
			if !sameCluster(again, wanted) || !slices.Equal(toldAgain, wantedTold) || !slices.Equal(logAgain, wantedLog) {
				t.Fatalf("an answer became %s, %d, %q", shown(again), toldAgain, logAgain)
			}
			if !sameCluster(wholeCluster(c), was) || !slices.Equal(ops, wereOps) {
				t.Fatalf("%s became %s", shown(was), shown(c))
			}
		}
	}
}

// Each function answers, whatever it is given.
func TestClusterFunctionsAnswerAtEveryArgument(t *testing.T) {
	far := []int64{least, least + 1, -10001, -1, 0, 1, 2, 3, 5, 6, 60, 149, 150, 151, 9999, 10000, 10001, 1 << 32, 1<<32 + 1, greatest - 1, greatest}
	for _, right := range rightClusters() {
		ops := []impl.Op{{}}
		for _, a := range far {
			ops = append(ops, impl.Op{Kind: a, Server: a, Index: a, Text: "all"})
			for kind := int64(1); kind <= 7; kind++ {
				ops = append(ops, impl.Op{Kind: kind, Server: a, Text: "all"}, impl.Op{Kind: kind, Index: a}, impl.Op{Kind: kind, Server: a, Index: a, Text: "\xff"})
			}
			for field := range 5 {
				c := deepCluster(right)
				r := &c.Replicas[len(c.Replicas)-1]
				*[]*int64{&r.Id, &r.Peers, &r.View, &r.Last, &r.Commit}[field] = a
				checkActsOfCluster(t, c, oneOfEach()...)
			}
			for _, b := range far {
				m := impl.Message{Kind: a, From: b, To: a, View: b, Last: a, Commit: b}
				c := clusterOf(messages(m), right.Replicas...)
				checkActsOfCluster(t, c, deliverAt(0))
				m.To = 0
				c.Net = messages(m, m)
				checkActsOfCluster(t, c, deliverAt(1))
				checkCalm(t, c)
				m.Kind, m.View, m.From = 1+(a&3), max(a, 0), 1
				c.Net = messages(m, m)
				checkActsOfCluster(t, c, deliverAt(1))
				checkCalm(t, c)
			}
		}
		checkActsOfCluster(t, right, ops[:300]...)
		checkActsOfCluster(t, right, ops[300:]...)
		for _, text := range append(append(slices.Clone(oddTexts), hugeTexts()...), "", "key \xff") {
			checkActsOfCluster(t, right, submitTo(0, text))
			checkActsOfCluster(t, clusterOf(messages(logTo(0, 0, 0, 0, text)), right.Replicas...), deliverAt(0), twiceAt(0))
		}
		checkActsOfCluster(t, clusterOf(right.Net, make([]impl.Replica, len(right.Replicas))...), oneOfEach()...)
	}
	checkActsOfCluster(t, impl.Cluster{}, append(oneOfEach(), impl.Op{})...)
	checkActsOfCluster(t, clusterOf(make([]impl.Message, 100000)), oneOfEach()...)
	checkActsOfCluster(t, clusterOf(nil, make([]impl.Replica, 100000)...), oneOfEach()...)
}
