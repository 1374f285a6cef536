package tests

import (
	"fmt"
	"math/rand"
	"slices"
	"strings"
	"testing"
	"unsafe"

	"loop.example/g00207/impl"
)

// A message of each Kind; what a Kind does not tell is zero.
func logTo(from, to, view, commit int64, log ...string) impl.Message {
	return impl.Message{Kind: 1, From: from, To: to, View: view, Last: view, Log: log, Commit: commit}
}

func okTo(from, to, view, count int64) impl.Message {
	return impl.Message{Kind: 2, From: from, To: to, View: view, Commit: count}
}

func changeTo(from, to, view int64) impl.Message {
	return impl.Message{Kind: 3, From: from, To: to, View: view}
}

func tellTo(from, to, view, last, commit int64, log ...string) impl.Message {
	return impl.Message{Kind: 4, From: from, To: to, View: view, Last: last, Log: log, Commit: commit}
}

// followerOf is Normal and does not lead; leaderOf does, and has these Oks.
func followerOf(id, peers, view, commit int64, log ...string) impl.Replica {
	return impl.Replica{Id: id, Peers: peers, View: view, Normal: true, Last: view, Log: log, Commit: commit}
}

func leaderOf(peers, view, commit int64, oks []int64, log ...string) impl.Replica {
	r := followerOf(view%peers, peers, view, commit, log...)
	r.Oks = oks
	return r
}

// askerOf is not Normal, and has these Changes.
func askerOf(id, peers, view, last, commit int64, changes []int64, log ...string) impl.Replica {
	return impl.Replica{Id: id, Peers: peers, View: view, Last: last, Log: log, Commit: commit, Changes: changes}
}

func withTells(r impl.Replica, tells ...impl.Message) impl.Replica {
	r.Tells = tells
	return r
}

func numbers(list ...int64) []int64 { return list }

func sameMessage(a, b impl.Message) bool {
	return a.Kind == b.Kind && a.From == b.From && a.To == b.To && a.View == b.View && a.Last == b.Last && slices.Equal(a.Log, b.Log) && a.Commit == b.Commit
}

func sameMessages(a, b []impl.Message) bool {
	return slices.EqualFunc(a, b, sameMessage)
}

func sameReplica(a, b impl.Replica) bool {
	if a.Id != b.Id || a.Peers != b.Peers || a.View != b.View || a.Normal != b.Normal || a.Last != b.Last || a.Commit != b.Commit {
		return false
	}
	return slices.Equal(a.Log, b.Log) && slices.Equal(a.Oks, b.Oks) && slices.Equal(a.Changes, b.Changes) && sameMessages(a.Tells, b.Tells)
}

// shown is how a replica or messages are told where a test fails.
func shown(value any) string {
	return fmt.Sprintf("%.500s", fmt.Sprintf("%+v", value))
}

func lies(n, from, to int64) bool {
	return n >= from && n <= to
}

// plainMessageOk and its kin tell the functions of the chapter once more.
func plainMessageOk(m impl.Message, peers int64) bool {
	entries := int64(len(m.Log))
	if m.Kind == 2 {
		entries = 60
	}
	numbersFit := lies(m.Kind, 1, 4) && lies(m.From, 0, peers-1) && lies(m.To, 0, peers-1) && lies(m.View, 0, 10000) && lies(m.Last, 0, m.View) && lies(m.Commit, 0, entries)
	return numbersFit && plainLogOk(m.Log)
}

func plainLeads(r impl.Replica) bool {
	return r.Normal && r.View%r.Peers == r.Id
}

// serversIn is false where they do not rise, or one is no server.
func serversIn(list []int64, peers int64) (map[int64]int, bool) {
	places := map[int64]int{}
	for i, server := range list {
		if !lies(server, 0, peers-1) || i > 0 && list[i-1] >= server {
			return nil, false
		}
		places[server] = i
	}
	return places, true
}

func plainReplicaOk(r impl.Replica) bool {
	if r.Peers != 1 && r.Peers != 3 && r.Peers != 5 || !lies(r.Id, 0, r.Peers-1) || !lies(r.View, 0, 10000) {
		return false
	}
	if !plainLogOk(r.Log) || !lies(r.Commit, 0, int64(len(r.Log))) {
		return false
	}
	if r.Normal {
		oks := 0
		if plainLeads(r) {
			oks = int(r.Peers)
		}
		for i, n := range r.Oks {
			if !lies(n, 0, int64(len(r.Log))) || i == int(r.Id) && int(n) < len(r.Log) {
				return false
			}
		}
		return r.Last == r.View && len(r.Oks) == oks && len(r.Changes) == 0 && len(r.Tells) == 0
	}
	places, rise := serversIn(r.Changes, r.Peers)
	if _, asks := places[r.Id]; !asks || !rise || !lies(r.Last, 0, r.View-1) || len(r.Oks) > 0 {
		return false
	}
	froms := []int64{}
	for _, m := range r.Tells {
		if !plainMessageOk(m, r.Peers) || m.Kind != 4 || m.To != r.Id || m.View != r.View || r.View%r.Peers != r.Id {
			return false
		}
		froms = append(froms, m.From)
	}
	_, rise = serversIn(froms, r.Peers)
	return rise
}

// plainServer keeps what rises as sets, and makes lists of them at the end.
type plainServer struct {
	impl.Replica
	asking  map[int64]bool
	telling map[int64]impl.Message
}

func plainOf(r impl.Replica) *plainServer {
	s := &plainServer{Replica: r, asking: map[int64]bool{}, telling: map[int64]impl.Message{}}
	s.Log, s.Oks = slices.Clone(r.Log), slices.Clone(r.Oks)
	for _, server := range r.Changes {
		s.asking[server] = true
	}
	for _, m := range r.Tells {
		s.telling[m.From] = m
	}
	return s
}

func (s *plainServer) replica() impl.Replica {
	r := s.Replica
	r.Changes, r.Tells = nil, nil
	for server := range r.Peers {
		if s.asking[server] {
			r.Changes = append(r.Changes, server)
		}
		if m, is := s.telling[server]; is {
			r.Tells = append(r.Tells, m)
		}
	}
	return r
}

func (s *plainServer) many(count int) bool {
	return count > int(s.Peers)/2
}

func (s *plainServer) spread() []impl.Message {
	list := []impl.Message{}
	leads, next := plainLeads(s.Replica), s.View%s.Peers
	for to := int64(0); to < s.Peers; to++ {
		if to != s.Id && leads {
			list = append(list, impl.Message{Kind: 1, From: s.Id, To: to, View: s.View, Last: s.Last, Log: s.Log, Commit: s.Commit})
		} else if to != s.Id && !s.Normal {
			list = append(list, changeTo(s.Id, to, s.View))
		}
	}
	if !s.Normal && s.many(len(s.asking)) && next != s.Id {
		list = append(list, tellTo(s.Id, next, s.View, s.Last, s.Commit, s.Log...))
	}
	return list
}

func (s *plainServer) counted() {
	s.Oks[s.Id] = int64(len(s.Log))
	for n := range len(s.Log) + 1 {
		reach := 0
		for _, ok := range s.Oks {
			if int(ok) >= n {
				reach++
			}
		}
		if s.many(reach) && int64(n) > s.Commit {
			s.Commit = int64(n)
		}
	}
}

func (s *plainServer) asks(view int64) {
	s.View, s.Normal, s.Oks = view, false, nil
	s.asking, s.telling = map[int64]bool{s.Id: true}, map[int64]impl.Message{}
}

func (s *plainServer) normal(view int64) {
	s.View, s.Normal, s.Last, s.Oks = view, true, view, nil
	s.asking, s.telling = nil, nil
	if view%s.Peers == s.Id {
		s.Oks = make([]int64, s.Peers)
		s.counted()
	}
}

func (s *plainServer) told() {
	if s.Normal || !s.many(len(s.asking)) || s.View%s.Peers != s.Id {
		return
	}
	s.telling[s.Id] = tellTo(s.Id, s.Id, s.View, s.Last, s.Commit, s.Log...)
	best, commit := impl.Message{Last: -1}, int64(0)
	for server := range s.Peers {
		m, is := s.telling[server]
		if is && (m.Last > best.Last || m.Last == best.Last && len(m.Log) > len(best.Log)) {
			best = m
		}
		commit = max(commit, m.Commit)
	}
	if s.many(len(s.telling)) && plainBegins(best.Log, s.Log[:s.Commit]) {
		s.Log, s.Commit = slices.Clone(best.Log), min(commit, int64(len(best.Log)))
		s.normal(s.View)
	}
}

func plainBegins(log, first []string) bool {
	for i, text := range first {
		if i >= len(log) || log[i] != text {
			return false
		}
	}
	return true
}

func plainSpread(r impl.Replica) []impl.Message {
	if !plainReplicaOk(r) {
		return nil
	}
	return plainOf(r).spread()
}

func plainSubmit(r impl.Replica, text string) (impl.Replica, []impl.Message, int64) {
	if !plainReplicaOk(r) {
		return impl.Replica{}, nil, -1
	}
	s := plainOf(r)
	if _, is := plainReadPurge(text); !is || !plainLeads(r) || len(r.Log) == 60 {
		return r, nil, -1
	}
	s.Log = append(s.Log, text)
	s.counted()
	return s.replica(), s.spread(), int64(len(s.Log))
}

func plainSuspect(r impl.Replica) (impl.Replica, []impl.Message) {
	if !plainReplicaOk(r) {
		return impl.Replica{}, nil
	}
	if r.View == 10000 {
		return r, nil
	}
	s := plainOf(r)
	s.asks(r.View + 1)
	s.told()
	return s.replica(), s.spread()
}

func plainReceive(r impl.Replica, m impl.Message) (impl.Replica, []impl.Message) {
	if !plainReplicaOk(r) {
		return impl.Replica{}, nil
	}
	if !plainMessageOk(m, r.Peers) || m.To != r.Id || m.From == r.Id || m.View < r.View {
		return r, nil
	}
	s := plainOf(r)
	above, next := m.View > r.View, m.View%r.Peers
	switch m.Kind {
	case 1:
		longer := r.Normal && !above && len(r.Log) > len(m.Log)
		if m.From != next || longer || !above && plainLeads(r) || !plainBegins(m.Log, r.Log[:r.Commit]) {
			return r, nil
		}
		s.Log, s.Commit = slices.Clone(m.Log), max(r.Commit, m.Commit)
		s.normal(m.View)
		return s.replica(), []impl.Message{okTo(r.Id, m.From, m.View, int64(len(m.Log)))}
	case 2:
		if above || !plainLeads(r) {
			return r, nil
		}
		s.Oks[m.From] = max(s.Oks[m.From], min(m.Commit, int64(len(r.Log))))
		s.counted()
		return s.replica(), nil
	case 4:
		if m.To != next {
			return r, nil
		}
	}
	if above {
		s.asks(m.View)
	} else if r.Normal {
		return r, nil
	}
	had := s.many(len(s.asking))
	s.asking[m.From] = true
	if m.Kind == 4 {
		s.telling[m.From] = m
	} else if !above && (had || !s.many(len(s.asking))) {
		return s.replica(), nil
	}
	s.told()
	if m.Kind == 4 && !above && !s.Normal {
		return s.replica(), nil
	}
	return s.replica(), s.spread()
}

func plainStop(r impl.Replica) impl.Replica {
	if !plainReplicaOk(r) {
		return impl.Replica{}
	}
	s := plainOf(r)
	s.Commit = 0
	if r.Normal {
		s.normal(r.View)
	} else {
		s.asks(r.View)
	}
	return s.replica()
}

// checkReplicaOk asks of one that is wrong what all functions answer of it.
func checkReplicaOk(t *testing.T, r impl.Replica, want bool) {
	t.Helper()
	if impl.ReplicaOk(r) != want || plainReplicaOk(r) != want {
		t.Errorf("ReplicaOk(%s) is %v, not %v", shown(r), impl.ReplicaOk(r), want)
		return
	}
	if want {
		return
	}
	zero := impl.Replica{}
	if list := impl.Spread(r); len(list) > 0 {
		t.Errorf("Spread(%s): %s", shown(r), shown(list))
	}
	if got, list, number := impl.Submit(r, "all"); !sameReplica(got, zero) || len(list) > 0 || number != -1 {
		t.Errorf("Submit(%s, all): %s, %s, %d", shown(r), shown(got), shown(list), number)
	}
	if got, list := impl.Suspect(r); !sameReplica(got, zero) || len(list) > 0 {
		t.Errorf("Suspect(%s): %s, %s", shown(r), shown(got), shown(list))
	}
	for kind := range int64(6) {
		m := impl.Message{Kind: kind, From: (r.Id + 1) % 3, To: r.Id, View: max(r.View, 0), Log: []string{"all"}}
		if got, list := impl.Receive(r, m); !sameReplica(got, zero) || len(list) > 0 {
			t.Errorf("Receive(%s, %s): %s, %s", shown(r), shown(m), shown(got), shown(list))
		}
	}
	if got := impl.Stop(r); !sameReplica(got, zero) {
		t.Errorf("Stop(%s): %s", shown(r), shown(got))
	}
}

func checkSpread(t *testing.T, r impl.Replica, want ...impl.Message) {
	t.Helper()
	if got := impl.Spread(r); !impl.ReplicaOk(r) || !sameMessages(got, want) {
		t.Errorf("Spread(%s):\n%s, not\n%s", shown(r), shown(got), shown(want))
	}
}

func checkSubmit(t *testing.T, r impl.Replica, text string, want impl.Replica, number int64, list ...impl.Message) {
	t.Helper()
	got, told, count := impl.Submit(r, text)
	if !impl.ReplicaOk(r) || !sameReplica(got, want) || count != number || !sameMessages(told, list) {
		t.Errorf("Submit(%s, %.80q):\n%s, %d, %s, not\n%s, %d, %s", shown(r), text, shown(got), count, shown(told), shown(want), number, shown(list))
	}
}

func checkNotSubmitted(t *testing.T, r impl.Replica, text string) {
	t.Helper()
	checkSubmit(t, r, text, r, -1)
}

func checkSuspect(t *testing.T, r impl.Replica, want impl.Replica, list ...impl.Message) {
	t.Helper()
	got, told := impl.Suspect(r)
	if !impl.ReplicaOk(r) || !sameReplica(got, want) || !sameMessages(told, list) {
		t.Errorf("Suspect(%s):\n%s, %s, not\n%s, %s", shown(r), shown(got), shown(told), shown(want), shown(list))
	}
}

func checkReceive(t *testing.T, r impl.Replica, m impl.Message, want impl.Replica, list ...impl.Message) {
	t.Helper()
	got, told := impl.Receive(r, m)
	if !impl.ReplicaOk(r) || !impl.ReplicaOk(want) || !sameReplica(got, want) || !sameMessages(told, list) {
		t.Errorf("Receive(%s, %s):\n%s, %s, not\n%s, %s", shown(r), shown(m), shown(got), shown(told), shown(want), shown(list))
	}
}

// checkPassedOver: as it is, and nothing.
func checkPassedOver(t *testing.T, r impl.Replica, m impl.Message) {
	t.Helper()
	checkReceive(t, r, m, r)
}

func checkStop(t *testing.T, r impl.Replica, want impl.Replica) {
	t.Helper()
	if got := impl.Stop(r); !impl.ReplicaOk(r) || !impl.ReplicaOk(want) || !sameReplica(got, want) {
		t.Errorf("Stop(%s):\n%s, not\n%s", shown(r), shown(got), shown(want))
	}
}

// rightReplicas are of each stand, and of each number of Peers.
func rightReplicas() []impl.Replica {
	full := quietLog(60)
	return []impl.Replica{
		leaderOf(1, 0, 0, numbers(0)),
		leaderOf(1, 10000, 1, numbers(2), "all", "key a"),
		leaderOf(3, 0, 0, numbers(0, 0, 0)),
		leaderOf(3, 3, 1, numbers(3, 0, 2), "all", "key a", "tag b"),
		leaderOf(3, 7, 0, numbers(1, 2, 2), "all", "key a"),
		leaderOf(3, 9999, 60, numbers(60, 60, 59), full...),
		leaderOf(5, 4, 2, numbers(0, 1, 2, 2, 2), "all", "key a"),
		leaderOf(5, 10, 0, numbers(1, 0, 0, 0, 0), "all"),
		followerOf(1, 3, 0, 0),
		followerOf(2, 3, 4, 1, "all", "key a"),
		followerOf(0, 3, 10000, 60, full...),
		followerOf(3, 5, 2, 0, "tag b"),
		followerOf(4, 5, 10000, 1, "all"),
		askerOf(0, 3, 1, 0, 0, numbers(0)),
		askerOf(0, 3, 2, 1, 1, numbers(0, 2), "all", "key a"),
		askerOf(1, 3, 1, 0, 0, numbers(1), "all"),
		askerOf(1, 3, 4, 2, 0, numbers(0, 1, 2), "all"),
		askerOf(2, 3, 10000, 9999, 2, numbers(1, 2), "all", "key a"),
		withTells(askerOf(1, 3, 4, 2, 1, numbers(1), "all", "key a"), tellTo(0, 1, 4, 3, 1, "all")),
		withTells(askerOf(1, 3, 4, 0, 1, numbers(0, 1), "all"), tellTo(0, 1, 4, 4, 0), tellTo(1, 1, 4, 0, 0, "tag b"), tellTo(2, 1, 4, 2, 60, full...)),
		withTells(askerOf(1, 3, 10000, 0, 0, numbers(0, 1)), tellTo(2, 1, 10000, 10000, 0)),
		withTells(askerOf(2, 5, 7, 6, 1, numbers(0, 2), "all"), tellTo(0, 2, 7, 0, 0, "all"), tellTo(4, 2, 7, 5, 1, "all")),
		askerOf(4, 5, 3, 1, 1, numbers(1, 2, 4), "all"),
		askerOf(0, 1, 1, 0, 0, numbers(0), "all"),
		withTells(askerOf(0, 1, 9, 7, 1, numbers(0), "all"), tellTo(0, 0, 9, 8, 0)),
	}
}

// farNumbers are far from all that is right here, or just behind an end.
var farNumbers = []int64{-1, -2, -3, -60, -10000, 10001, 10002, 20000, 1 << 16, 1 << 31, 1 << 32, 1<<32 + 1, 1<<32 + 3, 1 << 62, least, least + 1, least + 3, greatest - 2, greatest - 1, greatest}

func TestReplicaConstants(t *testing.T) {
	if impl.MsLog != 1 || impl.MsOk != 2 || impl.MsChange != 3 || impl.MsTell != 4 || impl.MaxView != 10000 {
		t.Fatal(impl.MsLog, impl.MsOk, impl.MsChange, impl.MsTell, impl.MaxView)
	}
}

func TestRightReplicas(t *testing.T) {
	for _, r := range rightReplicas() {
		checkReplicaOk(t, r, true)
		// An empty list and nil are the same value.
		if len(r.Log) == 0 {
			r.Log = []string{}
		}
		if len(r.Oks) == 0 {
			r.Oks = []int64{}
		}
		if len(r.Changes) == 0 {
			r.Changes = []int64{}
		}
		if len(r.Tells) == 0 {
			r.Tells = []impl.Message{}
		}
		checkReplicaOk(t, r, true)
	}
	checkReplicaOk(t, impl.Replica{}, false)
}

// changedReplica answers right as it is but for what change does to it.
func changedReplica(right impl.Replica, change func(*impl.Replica)) impl.Replica {
	r := deepReplica(right)
	change(&r)
	return r
}

func checkChanged(t *testing.T, right impl.Replica, want bool, change func(*impl.Replica)) {
	t.Helper()
	checkReplicaOk(t, right, true)
	checkReplicaOk(t, changedReplica(right, change), want)
}

func TestReplicasByPeersAndId(t *testing.T) {
	for peers := int64(-3); peers < 12; peers++ {
		for id := int64(-3); id < 12; id++ {
			want := (peers == 1 || peers == 3 || peers == 5) && id >= 0 && id < peers
			follower, asker := followerOf(id, peers, 1, 0), askerOf(id, peers, 2, 1, 0, numbers(id))
			for view := range int64(6) {
				if want && view%peers != id {
					follower.View, follower.Last = view, view
				}
			}
			checkReplicaOk(t, asker, want)
			checkReplicaOk(t, follower, want && peers > 1)
			if want {
				checkReplicaOk(t, leaderOf(peers, id, 0, make([]int64, peers)), true)
			} else {
				follower.Oks = make([]int64, max(peers, 0))
				checkReplicaOk(t, follower, false)
			}
		}
	}
	for _, right := range rightReplicas() {
		for _, far := range append(slices.Clone(farNumbers), 0, 2, 4, 6, 7) {
			checkChanged(t, right, false, func(r *impl.Replica) { r.Peers = far })
		}
		for _, far := range append(slices.Clone(farNumbers), right.Peers, right.Peers+1) {
			checkChanged(t, right, false, func(r *impl.Replica) { r.Id = far })
			checkChanged(t, right, false, func(r *impl.Replica) { r.Id, r.Changes = far, append(r.Changes, far) })
			checkChanged(t, right, false, func(r *impl.Replica) { r.Id, r.Peers = far, far })
		}
	}
}

func TestReplicasByView(t *testing.T) {
	for _, far := range farNumbers {
		for _, right := range rightReplicas() {
			checkChanged(t, right, false, func(r *impl.Replica) { r.View = far })
			checkChanged(t, right, false, func(r *impl.Replica) { r.View, r.Last = far, far })
			checkChanged(t, right, false, func(r *impl.Replica) { r.View, r.Last = far, far-1 })
			checkChanged(t, right, false, func(r *impl.Replica) { r.Last = far })
		}
	}
	for _, view := range []int64{0, 1, 2, 3, 4, 59, 60, 61, 9997, 9998, 9999, 10000, 10001, 10002, 10003, -1, -2, -3} {
		is := view >= 0 && view <= 10000
		for id := range int64(3) {
			next := is && view%3 == id
			checkReplicaOk(t, followerOf(id, 3, view, 0, "all"), is && !next)
			leader := followerOf(id, 3, view, 0, "all")
			leader.Oks = numbers(1, 1, 1)
			checkReplicaOk(t, leader, next)
			asker := askerOf(id, 3, view, 0, 0, numbers(id), "all")
			checkReplicaOk(t, asker, is && view > 0)
			checkReplicaOk(t, withTells(asker, tellTo(id, id, view, 0, 0)), next && view > 0)
			asker.Oks = numbers(1, 1, 1)
			checkReplicaOk(t, asker, false)
		}
		checkReplicaOk(t, leaderOf(1, max(view, 0), 0, numbers(0)), view <= 10000)
	}
}

func TestReplicasByLast(t *testing.T) {
	for _, view := range []int64{0, 1, 2, 5, 100, 9999, 10000} {
		for _, last := range []int64{-1, 0, 1, view - 2, view - 1, view, view + 1, view + 2, 10000, 10001, least, greatest} {
			for peers := int64(1); peers <= 5; peers += 2 {
				for id := range peers {
					normal := followerOf(id, peers, view, 0, "all")
					if view%peers == id {
						normal = leaderOf(peers, view, 0, slices.Repeat(numbers(1), int(peers)), "all")
					}
					normal.Last = last
					checkReplicaOk(t, normal, last == view)
					checkReplicaOk(t, askerOf(id, peers, view, last, 0, numbers(id), "all"), last >= 0 && last < view)
				}
			}
		}
	}
}

func TestReplicasByLogAndCommit(t *testing.T) {
	for _, right := range rightReplicas() {
		entries := int64(len(right.Log))
		for _, commit := range append(slices.Clone(farNumbers), entries+1, entries+2, 61) {
			checkChanged(t, right, false, func(r *impl.Replica) { r.Commit = commit })
		}
		for commit := range entries + 1 {
			checkChanged(t, right, true, func(r *impl.Replica) { r.Commit = commit })
		}
		for _, text := range []string{"", "x", "all ", "key", "key a b", "tag " + strings.Repeat("x", 201), "begin \xff"} {
			for at := range right.Log {
				checkChanged(t, right, false, func(r *impl.Replica) { r.Log[at] = text })
			}
		}
	}
	for _, count := range []int64{0, 1, 2, 59, 60, 61, 62, 100, 100000} {
		log := quietLog(int(count))
		for _, r := range []impl.Replica{
			leaderOf(1, 2, 0, numbers(count), log...),
			leaderOf(3, 2, count, numbers(0, count, count), log...),
			followerOf(2, 3, 1, min(count, 60), log...),
			askerOf(2, 3, 1, 0, 0, numbers(2), log...),
			withTells(askerOf(1, 3, 1, 0, 0, numbers(1)), tellTo(0, 1, 1, 0, count, log...)),
			withTells(askerOf(1, 3, 1, 0, 0, numbers(1)), tellTo(0, 1, 1, 0, 0), tellTo(2, 1, 1, 0, 0, log...)),
		} {
			checkReplicaOk(t, r, count <= 60)
		}
	}
}

func TestReplicasByOks(t *testing.T) {
	texts := []string{"all", "key a", "tag b"}
	for _, oks := range [][]int64{{3, 0, 0}, {3, 3, 3}, {3, 1, 2}, {3, 2, 1}, {3, 0, 3}} {
		checkReplicaOk(t, leaderOf(3, 0, 0, oks, texts...), true)
		checkReplicaOk(t, followerOf(1, 3, 0, 0, texts...), true)
		for id := range int64(2) {
			follower, asker := followerOf(id+1, 3, 0, 0, texts...), askerOf(id, 3, 3, 1, 0, numbers(id), texts...)
			follower.Oks, asker.Oks = oks, oks
			checkReplicaOk(t, follower, false)
			checkReplicaOk(t, asker, false)
		}
	}
	for _, oks := range [][]int64{nil, {}, {3}, {3, 0}, {3, 3}, {3, 0, 0, 0}, {3, 0, 0, 0, 0}, {0, 0, 0}, {2, 0, 0}, {4, 0, 0}, {2, 3, 3}, {0, 3, 3}, {3, 4, 0}, {3, 0, 4}, {3, -1, 0}, {3, 0, -1}, {-1, 0, 0}, {3, greatest, 0}, {3, 0, least}, {greatest, 0, 0}, {least, 3, 3}, {3, 60, 0}, {3, 1<<32 + 1, 0}} {
		checkReplicaOk(t, leaderOf(3, 0, 0, oks, texts...), false)
		checkReplicaOk(t, leaderOf(3, 9, 3, oks, texts...), false)
	}
	// Its own stands at its own place.
	checkReplicaOk(t, leaderOf(3, 4, 0, numbers(0, 3, 0), texts...), true)
	checkReplicaOk(t, leaderOf(3, 4, 0, numbers(3, 0, 0), texts...), false)
	checkReplicaOk(t, leaderOf(3, 5, 0, numbers(0, 0, 3), texts...), true)
	checkReplicaOk(t, leaderOf(3, 5, 0, numbers(3, 3, 2), texts...), false)
	checkReplicaOk(t, leaderOf(5, 4, 0, numbers(0, 1, 2, 3, 3), texts...), true)
	checkReplicaOk(t, leaderOf(5, 4, 0, numbers(3, 3, 3), texts...), false)
	checkReplicaOk(t, leaderOf(1, 4, 0, numbers(3), texts...), true)
	checkReplicaOk(t, leaderOf(1, 4, 0, numbers(2), texts...), false)
	checkReplicaOk(t, leaderOf(1, 4, 0, nil, texts...), false)
	checkReplicaOk(t, leaderOf(1, 4, 0, numbers(3, 3, 3), texts...), false)
	// An asker has none, be the next View its own or not.
	for view := int64(1); view < 7; view++ {
		asker := askerOf(1, 3, view, 0, 0, numbers(0, 1), texts...)
		checkReplicaOk(t, asker, true)
		for _, oks := range [][]int64{{0}, {3}, {0, 3, 0}, {3, 3, 3}} {
			asker.Oks = oks
			checkReplicaOk(t, asker, false)
		}
	}
}

func TestReplicasByChanges(t *testing.T) {
	for _, test := range []struct {
		changes []int64
		right   []int64
	}{
		{nil, nil},
		{numbers(0), numbers(0)},
		{numbers(1), numbers(1)},
		{numbers(2), numbers(2)},
		{numbers(0, 1), numbers(0, 1)},
		{numbers(0, 2), numbers(0, 2)},
		{numbers(1, 2), numbers(1, 2)},
		{numbers(0, 1, 2), numbers(0, 1, 2)},
		{numbers(1, 0), nil},
		{numbers(2, 0), nil},
		{numbers(2, 1), nil},
		{numbers(0, 2, 1), nil},
		{numbers(1, 0, 2), nil},
		{numbers(2, 1, 0), nil},
		{numbers(0, 0), nil},
		{numbers(1, 1), nil},
		{numbers(0, 1, 1), nil},
		{numbers(0, 0, 1, 2), nil},
		{numbers(0, 1, 2, 2), nil},
		{numbers(3), nil},
		{numbers(0, 3), nil},
		{numbers(0, 1, 3), nil},
		{numbers(0, 1, 2, 3), nil},
		{numbers(-1), nil},
		{numbers(-1, 0, 1, 2), nil},
		{numbers(-1, 1), nil},
		{numbers(0, greatest), nil},
		{numbers(least, 0), nil},
		{numbers(0, 1, 1<<32+1), nil},
		{make([]int64, 100000), nil},
		{risingFrom(0, 100000), nil},
	} {
		for id := range int64(3) {
			for view := int64(1); view < 5; view++ {
				checkReplicaOk(t, askerOf(id, 3, view, 0, 0, test.changes), slices.Contains(test.right, id))
			}
			follower := followerOf(id, 3, id+1, 0)
			follower.Changes = test.changes
			checkReplicaOk(t, follower, len(test.changes) == 0)
			leader := leaderOf(3, id, 0, numbers(0, 0, 0))
			leader.Changes = test.changes
			checkReplicaOk(t, leader, len(test.changes) == 0)
		}
	}
	// Of five there are more servers, of one there are less.
	checkReplicaOk(t, askerOf(4, 5, 2, 1, 0, numbers(0, 1, 2, 3, 4)), true)
	checkReplicaOk(t, askerOf(4, 5, 2, 1, 0, numbers(0, 3, 4)), true)
	checkReplicaOk(t, askerOf(4, 5, 2, 1, 0, numbers(0, 3)), false)
	checkReplicaOk(t, askerOf(3, 5, 2, 1, 0, numbers(3, 5)), false)
	checkReplicaOk(t, askerOf(0, 1, 2, 1, 0, numbers(0)), true)
	checkReplicaOk(t, askerOf(0, 1, 2, 1, 0, numbers(0, 1)), false)
}

func TestReplicasByTells(t *testing.T) {
	asker := askerOf(1, 3, 4, 2, 1, numbers(0, 1), "all", "key a")
	right := tellTo(0, 1, 4, 3, 1, "all")
	for _, tells := range [][]impl.Message{
		nil,
		{right},
		{tellTo(1, 1, 4, 3, 0)},
		{tellTo(2, 1, 4, 0, 0)},
		{right, tellTo(1, 1, 4, 2, 1, "all", "key a")},
		{right, tellTo(2, 1, 4, 4, 1, "tag b")},
		{tellTo(1, 1, 4, 2, 0), tellTo(2, 1, 4, 0, 0)},
		{right, tellTo(1, 1, 4, 0, 0), tellTo(2, 1, 4, 0, 60, quietLog(60)...)},
	} {
		checkReplicaOk(t, withTells(asker, tells...), true)
		if len(tells) == 0 {
			continue
		}
		// Only one who is the next to lead, and does not yet, has some.
		checkReplicaOk(t, withTells(leaderOf(3, 4, 0, numbers(0, 2, 0), "all", "key a"), tells...), false)
		checkReplicaOk(t, withTells(followerOf(1, 3, 3, 0, "all"), tells...), false)
		for _, view := range []int64{3, 5, 6} {
			other := asker
			other.View = view
			checkReplicaOk(t, other, true)
			checkReplicaOk(t, withTells(other, tells...), false)
			turned := slices.Clone(tells)
			for i := range turned {
				turned[i].View, turned[i].Last = view, 0
			}
			checkReplicaOk(t, withTells(other, turned...), false)
			turned = slices.Clone(tells)
			for i := range turned {
				turned[i].View, turned[i].Last, turned[i].To = view, 0, view%3
			}
			checkReplicaOk(t, withTells(other, turned...), false)
		}
	}
	for _, tells := range [][]impl.Message{
		{right, right},
		{right, tellTo(0, 1, 4, 0, 0)},
		{tellTo(1, 1, 4, 0, 0), right},
		{tellTo(2, 1, 4, 0, 0), right},
		{right, tellTo(2, 1, 4, 0, 0), tellTo(1, 1, 4, 0, 0)},
		{right, tellTo(2, 1, 4, 0, 0), tellTo(2, 1, 4, 0, 0)},
		{right, tellTo(1, 1, 4, 0, 0), tellTo(2, 1, 4, 0, 0), tellTo(2, 1, 4, 0, 0)},
		make([]impl.Message, 100000),
		{{}},
		slices.Repeat([]impl.Message{right}, 1000),
	} {
		checkReplicaOk(t, withTells(asker, tells...), false)
	}
	for _, wrong := range wrongTells(right) {
		checkReplicaOk(t, withTells(asker, wrong), false)
		checkReplicaOk(t, withTells(asker, right, tellTo(1, 1, 4, 0, 0), wrong), false)
		wrong.From = max(wrong.From, 1)
		checkReplicaOk(t, withTells(asker, right, wrong), plainMessageOk(wrong, 3) && wrong.Kind == 4 && wrong.To == 1 && wrong.View == 4)
	}
}

// wrongTells are not right MsTell messages to 1 of three, of View 4: by one thing each.
func wrongTells(right impl.Message) []impl.Message {
	var list []impl.Message
	add := func(change func(*impl.Message)) {
		m := newMessageOf(right)
		change(&m)
		list = append(list, m)
	}
	for _, kind := range append(slices.Clone(farKinds), 1, 2, 3) {
		if kind != 4 {
			add(func(m *impl.Message) { m.Kind = kind })
		}
	}
	for _, far := range farNumbers {
		add(func(m *impl.Message) { m.From = far })
		add(func(m *impl.Message) { m.To = far })
		add(func(m *impl.Message) { m.View = far })
		add(func(m *impl.Message) { m.Last = far })
		add(func(m *impl.Message) { m.Commit = far })
	}
	for _, server := range []int64{0, 2, 3, 4} {
		add(func(m *impl.Message) { m.To = server })
	}
	add(func(m *impl.Message) { m.From = 3 })
	add(func(m *impl.Message) { m.From = 4 })
	for _, view := range []int64{1, 3, 5, 7, 10000} {
		add(func(m *impl.Message) { m.View, m.Last = view, 0 })
	}
	add(func(m *impl.Message) { m.Last = 5 })
	add(func(m *impl.Message) { m.Commit = 2 })
	add(func(m *impl.Message) { m.Log = nil })
	add(func(m *impl.Message) { m.Log = []string{"x"} })
	add(func(m *impl.Message) { m.Log = []string{"all", ""} })
	add(func(m *impl.Message) { m.Log = quietLog(61) })
	return list
}

func newMessageOf(m impl.Message) impl.Message {
	m.Log = slices.Clone(m.Log)
	return m
}

func TestNewReplica(t *testing.T) {
	for peers := int64(-4); peers < 14; peers++ {
		for id := int64(-4); id < 14; id++ {
			checkNewReplica(t, id, peers)
		}
	}
	for _, far := range append(slices.Clone(farNumbers), 0, 1, 3, 5) {
		for _, other := range append(slices.Clone(farNumbers), 0, 1, 3, 5) {
			checkNewReplica(t, far, other)
		}
	}
}

func checkNewReplica(t *testing.T, id, peers int64) {
	t.Helper()
	got, is := impl.NewReplica(id, peers)
	if peers != 1 && peers != 3 && peers != 5 || id < 0 || id >= peers {
		if is || !sameReplica(got, impl.Replica{}) {
			t.Errorf("NewReplica(%d, %d): %s, %v", id, peers, shown(got), is)
		}
		return
	}
	want := impl.Replica{Id: id, Peers: peers, Normal: true}
	if id == 0 {
		want.Oks = make([]int64, peers)
	}
	if !is || !sameReplica(got, want) || !impl.ReplicaOk(got) {
		t.Errorf("NewReplica(%d, %d): %s, %v", id, peers, shown(got), is)
	}
}

func TestSpreadOfOneThatLeads(t *testing.T) {
	checkSpread(t, leaderOf(1, 0, 0, numbers(0)))
	checkSpread(t, leaderOf(1, 7, 1, numbers(1), "all"))
	checkSpread(t, leaderOf(3, 0, 0, numbers(0, 0, 0)), logTo(0, 1, 0, 0), logTo(0, 2, 0, 0))
	checkSpread(t, leaderOf(3, 4, 1, numbers(0, 2, 1), "all", "key a"), logTo(1, 0, 4, 1, "all", "key a"), logTo(1, 2, 4, 1, "all", "key a"))
	checkSpread(t, leaderOf(3, 10000-1, 0, numbers(1, 0, 0), "all"), logTo(0, 1, 9999, 0, "all"), logTo(0, 2, 9999, 0, "all"))
	checkSpread(t, leaderOf(5, 7, 2, numbers(2, 2, 2, 0, 0), "all", "all"), logTo(2, 0, 7, 2, "all", "all"), logTo(2, 1, 7, 2, "all", "all"), logTo(2, 3, 7, 2, "all", "all"), logTo(2, 4, 7, 2, "all", "all"))
	full := quietLog(60)
	checkSpread(t, leaderOf(3, 2, 60, numbers(60, 60, 60), full...), logTo(2, 0, 2, 60, full...), logTo(2, 1, 2, 60, full...))
}

func TestSpreadOfOneThatIsNormalAndDoesNotLead(t *testing.T) {
	checkSpread(t, followerOf(1, 3, 0, 0))
	checkSpread(t, followerOf(2, 3, 4, 1, "all", "key a"))
	checkSpread(t, followerOf(0, 3, 10000, 1, "all"))
	checkSpread(t, followerOf(4, 5, 0, 0, "all"))
}

func TestSpreadOfOneThatIsNotNormal(t *testing.T) {
	// Itself alone, and of five two, are no majority.
	checkSpread(t, askerOf(0, 3, 1, 0, 0, numbers(0)), changeTo(0, 1, 1), changeTo(0, 2, 1))
	checkSpread(t, askerOf(1, 3, 2, 1, 1, numbers(1), "all"), changeTo(1, 0, 2), changeTo(1, 2, 2))
	checkSpread(t, askerOf(0, 5, 4, 1, 1, numbers(0, 3), "all"), changeTo(0, 1, 4), changeTo(0, 2, 4), changeTo(0, 3, 4), changeTo(0, 4, 4))
	// A majority: the next one is told.
	checkSpread(t, askerOf(0, 3, 1, 0, 0, numbers(0, 1)), changeTo(0, 1, 1), changeTo(0, 2, 1), tellTo(0, 1, 1, 0, 0))
	checkSpread(t, askerOf(0, 3, 4, 2, 1, numbers(0, 2), "all", "key a"), changeTo(0, 1, 4), changeTo(0, 2, 4), tellTo(0, 1, 4, 2, 1, "all", "key a"))
	checkSpread(t, askerOf(2, 3, 10000, 9998, 0, numbers(0, 1, 2), "all"), changeTo(2, 0, 10000), changeTo(2, 1, 10000), tellTo(2, 1, 10000, 9998, 0, "all"))
	checkSpread(t, askerOf(0, 5, 4, 1, 1, numbers(0, 1, 3), "all"), changeTo(0, 1, 4), changeTo(0, 2, 4), changeTo(0, 3, 4), changeTo(0, 4, 4), tellTo(0, 4, 4, 1, 1, "all"))
	// It is the next one itself: nobody is told.
	checkSpread(t, askerOf(1, 3, 1, 0, 0, numbers(1)), changeTo(1, 0, 1), changeTo(1, 2, 1))
	checkSpread(t, askerOf(1, 3, 1, 0, 0, numbers(0, 1)), changeTo(1, 0, 1), changeTo(1, 2, 1))
	checkSpread(t, withTells(askerOf(1, 3, 4, 2, 1, numbers(0, 1, 2), "all"), tellTo(0, 1, 4, 3, 1, "all"), tellTo(2, 1, 4, 3, 0)), changeTo(1, 0, 4), changeTo(1, 2, 4))
	checkSpread(t, askerOf(0, 1, 5, 3, 0, numbers(0), "all"))
}

func TestSubmitWhereItLeads(t *testing.T) {
	r, _ := impl.NewReplica(0, 3)
	checkSubmit(t, r, "all", leaderOf(3, 0, 0, numbers(1, 0, 0), "all"), 1, logTo(0, 1, 0, 0, "all"), logTo(0, 2, 0, 0, "all"))
	for text := range map[string]bool{"all": true, "key h/a": true, "tag t": true, "begin h/": true, "key " + strings.Repeat("x", 200): true} {
		checkSubmit(t, leaderOf(3, 4, 1, numbers(1, 1, 0), "key a"), text, leaderOf(3, 4, 1, numbers(1, 2, 0), "key a", text), 2,
			logTo(1, 0, 4, 1, "key a", text), logTo(1, 2, 4, 1, "key a", text))
	}
	// One that is there already comes once more.
	checkSubmit(t, leaderOf(3, 0, 1, numbers(1, 1, 1), "all"), "all", leaderOf(3, 0, 1, numbers(2, 1, 1), "all", "all"), 2, logTo(0, 1, 0, 1, "all", "all"), logTo(0, 2, 0, 1, "all", "all"))
	five := leaderOf(5, 8, 0, numbers(0, 0, 0, 0, 0))
	checkSubmit(t, five, "tag b", leaderOf(5, 8, 0, numbers(0, 0, 0, 1, 0), "tag b"), 1,
		logTo(3, 0, 8, 0, "tag b"), logTo(3, 1, 8, 0, "tag b"), logTo(3, 2, 8, 0, "tag b"), logTo(3, 4, 8, 0, "tag b"))
}

func TestSubmitWhereOneIsAlone(t *testing.T) {
	checkSubmit(t, leaderOf(1, 0, 0, numbers(0)), "all", leaderOf(1, 0, 1, numbers(1), "all"), 1)
	checkSubmit(t, leaderOf(1, 9, 0, numbers(2), "all", "key a"), "tag b", leaderOf(1, 9, 3, numbers(3), "all", "key a", "tag b"), 3)
	r, _ := impl.NewReplica(0, 1)
	for n := int64(1); n <= 60; n++ {
		next, list, number := impl.Submit(r, "key a")
		if number != n || next.Commit != n || int64(len(next.Log)) != n || len(list) != 0 || !impl.ReplicaOk(next) {
			t.Fatalf("Submit number %d: %d, %s, %s", n, number, shown(next), shown(list))
		}
		r = next
	}
	checkNotSubmitted(t, r, "key a")
}

// Commit rises where a majority had been told of more than was counted.
func TestSubmitCounts(t *testing.T) {
	checkSubmit(t, leaderOf(3, 0, 0, numbers(2, 1, 0), "all", "key a"), "tag b", leaderOf(3, 0, 1, numbers(3, 1, 0), "all", "key a", "tag b"), 3,
		logTo(0, 1, 0, 1, "all", "key a", "tag b"), logTo(0, 2, 0, 1, "all", "key a", "tag b"))
	checkSubmit(t, leaderOf(3, 0, 0, numbers(2, 1, 2), "all", "key a"), "tag b", leaderOf(3, 0, 2, numbers(3, 1, 2), "all", "key a", "tag b"), 3,
		logTo(0, 1, 0, 2, "all", "key a", "tag b"), logTo(0, 2, 0, 2, "all", "key a", "tag b"))
	// What was counted before stays, though nobody reaches it.
	checkSubmit(t, leaderOf(3, 0, 2, numbers(2, 1, 0), "all", "key a"), "tag b", leaderOf(3, 0, 2, numbers(3, 1, 0), "all", "key a", "tag b"), 3,
		logTo(0, 1, 0, 2, "all", "key a", "tag b"), logTo(0, 2, 0, 2, "all", "key a", "tag b"))
	for _, test := range []struct {
		oks    []int64
		commit int64
	}{
		{numbers(3, 0, 0, 0, 0), 0},
		{numbers(3, 3, 0, 0, 0), 0},
		{numbers(3, 3, 1, 0, 0), 1},
		{numbers(3, 0, 1, 0, 3), 1},
		{numbers(3, 1, 1, 1, 1), 1},
		{numbers(3, 3, 2, 1, 0), 2},
		{numbers(3, 0, 1, 2, 3), 2},
		{numbers(3, 2, 2, 0, 0), 2},
		{numbers(3, 3, 3, 0, 0), 3},
		{numbers(3, 3, 3, 3, 3), 3},
	} {
		r := leaderOf(5, 5, 0, test.oks, "all", "key a", "tag b")
		next, list, number := impl.Submit(r, "all")
		want := leaderOf(5, 5, test.commit, append(numbers(4), test.oks[1:]...), "all", "key a", "tag b", "all")
		if !sameReplica(next, want) || number != 4 || len(list) != 4 || list[3].Commit != test.commit {
			t.Errorf("Submit(%s): %s, %s, %d", shown(r), shown(next), shown(list), number)
		}
	}
}

func TestSubmitThatIsRefused(t *testing.T) {
	for _, r := range rightReplicas() {
		for _, text := range append(append(slices.Clone(oddTexts), hugeTexts()...), "", "a", "All", "all ", " all", "key", "key ", "key a b", "tag "+strings.Repeat("x", 201), "begin \x7f", "1", "key a\n") {
			checkNotSubmitted(t, r, text)
		}
		if !plainLeads(r) {
			for _, text := range []string{"all", "key a", "tag t", "begin h/"} {
				checkNotSubmitted(t, r, text)
			}
		}
	}
	for count := 57; count <= 60; count++ {
		log := quietLog(count)
		n := int64(count)
		r := leaderOf(3, 3, n, numbers(n, n, n), log...)
		if count == 60 {
			checkNotSubmitted(t, r, "all")
			continue
		}
		more := append(slices.Clone(log), "all")
		checkSubmit(t, r, "all", leaderOf(3, 3, n, numbers(n+1, n, n), more...), n+1, logTo(0, 1, 3, n, more...), logTo(0, 2, 3, n, more...))
	}
}

func TestSuspect(t *testing.T) {
	// One that is Normal, leading or not; the next one may be itself.
	checkSuspect(t, leaderOf(3, 0, 1, numbers(2, 1, 0), "all", "key a"), askerOf(0, 3, 1, 0, 1, numbers(0), "all", "key a"), changeTo(0, 1, 1), changeTo(0, 2, 1))
	checkSuspect(t, followerOf(1, 3, 0, 1, "all"), askerOf(1, 3, 1, 0, 1, numbers(1), "all"), changeTo(1, 0, 1), changeTo(1, 2, 1))
	checkSuspect(t, followerOf(2, 3, 0, 0), askerOf(2, 3, 1, 0, 0, numbers(2)), changeTo(2, 0, 1), changeTo(2, 1, 1))
	checkSuspect(t, followerOf(4, 5, 7, 1, "all", "all"), askerOf(4, 5, 8, 7, 1, numbers(4), "all", "all"), changeTo(4, 0, 8), changeTo(4, 1, 8), changeTo(4, 2, 8), changeTo(4, 3, 8))
	// One that is not: what it was told for the View below is gone, and Last stays.
	checkSuspect(t, askerOf(0, 3, 4, 2, 1, numbers(0, 2), "all"), askerOf(0, 3, 5, 2, 1, numbers(0), "all"), changeTo(0, 1, 5), changeTo(0, 2, 5))
	asker := withTells(askerOf(1, 3, 4, 0, 1, numbers(0, 1, 2), "all"), tellTo(0, 1, 4, 3, 1, "all"))
	checkSuspect(t, asker, askerOf(1, 3, 5, 0, 1, numbers(1), "all"), changeTo(1, 0, 5), changeTo(1, 2, 5))
	checkSuspect(t, askerOf(0, 3, 2, 1, 0, numbers(0, 1, 2)), askerOf(0, 3, 3, 1, 0, numbers(0)), changeTo(0, 1, 3), changeTo(0, 2, 3))
	// One that is alone is a majority by itself, and leads at once.
	checkSuspect(t, leaderOf(1, 0, 0, numbers(0)), leaderOf(1, 1, 0, numbers(0)))
	checkSuspect(t, leaderOf(1, 8, 1, numbers(3), "all", "all", "all"), leaderOf(1, 9, 3, numbers(3), "all", "all", "all"))
	checkSuspect(t, askerOf(0, 1, 5, 2, 0, numbers(0), "all"), leaderOf(1, 6, 1, numbers(1), "all"))
	checkSuspect(t, withTells(askerOf(0, 1, 5, 2, 1, numbers(0), "all"), tellTo(0, 0, 5, 5, 2, "key a", "key b")), leaderOf(1, 6, 1, numbers(1), "all"))
}

func TestSuspectAtTheLastView(t *testing.T) {
	for _, r := range []impl.Replica{
		leaderOf(1, 10000, 0, numbers(1), "all"),
		leaderOf(5, 10000, 0, numbers(1, 1, 1, 0, 0), "all"),
		followerOf(0, 3, 10000, 1, "all"),
		askerOf(0, 3, 10000, 9, 1, numbers(0, 2), "all"),
		withTells(askerOf(1, 3, 10000, 9, 1, numbers(0, 1), "all"), tellTo(0, 1, 10000, 3, 1, "all")),
		askerOf(0, 1, 10000, 9, 0, numbers(0), "all"),
	} {
		checkSuspect(t, r, r)
	}
	checkSuspect(t, leaderOf(1, 9999, 0, numbers(1), "all"), leaderOf(1, 10000, 1, numbers(1), "all"))
	checkSuspect(t, leaderOf(3, 9999, 0, numbers(1, 0, 0), "all"), askerOf(0, 3, 10000, 9999, 0, numbers(0), "all"), changeTo(0, 1, 10000), changeTo(0, 2, 10000))
	checkSuspect(t, askerOf(1, 3, 9999, 5, 0, numbers(0, 1)), askerOf(1, 3, 10000, 5, 0, numbers(1)), changeTo(1, 0, 10000), changeTo(1, 2, 10000))
	checkSuspect(t, askerOf(1, 3, 9998, 5, 0, numbers(1)), askerOf(1, 3, 9999, 5, 0, numbers(1)), changeTo(1, 0, 9999), changeTo(1, 2, 9999))
}

func TestReceiveMsLog(t *testing.T) {
	follower := followerOf(2, 3, 4, 1, "all", "key a")
	// Of one's own View: a longer log, or one that is as long.
	checkReceive(t, follower, logTo(1, 2, 4, 2, "all", "key a", "tag b"), followerOf(2, 3, 4, 2, "all", "key a", "tag b"), okTo(2, 1, 4, 3))
	checkReceive(t, follower, logTo(1, 2, 4, 0, "all", "key a", "tag b"), followerOf(2, 3, 4, 1, "all", "key a", "tag b"), okTo(2, 1, 4, 3))
	checkReceive(t, follower, logTo(1, 2, 4, 2, "all", "key a"), followerOf(2, 3, 4, 2, "all", "key a"), okTo(2, 1, 4, 2))
	checkReceive(t, follower, logTo(1, 2, 4, 1, "all", "key a"), follower, okTo(2, 1, 4, 2))
	checkReceive(t, follower, logTo(1, 2, 4, 0, "all", "tag c"), followerOf(2, 3, 4, 1, "all", "tag c"), okTo(2, 1, 4, 2))
	// A shorter one is passed over, and so is one that parts from what was agreed on.
	checkPassedOver(t, follower, logTo(1, 2, 4, 1, "all"))
	checkPassedOver(t, follower, logTo(1, 2, 4, 0))
	checkPassedOver(t, follower, logTo(1, 2, 4, 2, "key a", "all"))
	checkPassedOver(t, follower, logTo(1, 2, 4, 3, "key a", "all", "tag b"))
	// Of a View above one's own a shorter log is taken, too, if it has what was agreed on.
	checkReceive(t, follower, logTo(0, 2, 6, 1, "all"), followerOf(2, 3, 6, 1, "all"), okTo(2, 0, 6, 1))
	checkReceive(t, follower, logTo(1, 2, 7, 0, "all"), followerOf(2, 3, 7, 1, "all"), okTo(2, 1, 7, 1))
	checkReceive(t, follower, logTo(0, 2, 9999, 3, "all", "tag b", "tag c"), followerOf(2, 3, 9999, 3, "all", "tag b", "tag c"), okTo(2, 0, 9999, 3))
	checkReceive(t, follower, logTo(1, 2, 10000, 1, "all", "key a"), followerOf(2, 3, 10000, 1, "all", "key a"), okTo(2, 1, 10000, 2))
	checkPassedOver(t, follower, logTo(0, 2, 6, 0))
	checkPassedOver(t, follower, logTo(0, 2, 6, 1, "key a", "all", "all"))
	checkPassedOver(t, followerOf(2, 3, 4, 2, "all", "key a"), logTo(0, 2, 6, 1, "all"))
	checkPassedOver(t, followerOf(2, 3, 4, 2, "all", "key a"), logTo(0, 2, 6, 1, "all", "key b"))
	checkReceive(t, followerOf(2, 3, 4, 0, "all", "key a"), logTo(0, 2, 6, 0), followerOf(2, 3, 6, 0), okTo(2, 0, 6, 0))
	// Of a View below one's own.
	checkPassedOver(t, follower, logTo(0, 2, 3, 3, "all", "key a", "tag b"))
	checkPassedOver(t, follower, logTo(1, 2, 1, 3, "all", "key a", "tag b"))
	checkPassedOver(t, follower, logTo(0, 2, 0, 3, "all", "key a", "tag b"))
	checkPassedOver(t, askerOf(2, 3, 4, 0, 0, numbers(2)), logTo(0, 2, 3, 1, "all"))
	// The one from whom it comes does not lead in that View.
	checkPassedOver(t, follower, logTo(0, 2, 4, 3, "all", "key a", "tag b"))
	checkPassedOver(t, follower, logTo(1, 2, 6, 3, "all", "key a", "tag b"))
	checkPassedOver(t, follower, logTo(0, 2, 5, 3, "all", "key a", "tag b"))
	checkPassedOver(t, follower, logTo(1, 2, 5, 3, "all", "key a", "tag b"))
	checkPassedOver(t, follower, logTo(0, 2, 7, 3, "all", "key a", "tag b"))
	// Last of the message tells nothing here.
	for last := range int64(7) {
		m := logTo(0, 2, 6, 1, "all")
		m.Last = last
		checkReceive(t, follower, m, followerOf(2, 3, 6, 1, "all"), okTo(2, 0, 6, 1))
	}
}

func TestReceiveMsLogWhereOneIsNotNormal(t *testing.T) {
	for _, r := range []impl.Replica{askerOf(2, 3, 4, 3, 1, numbers(2), "all", "key a"), askerOf(2, 3, 4, 0, 1, numbers(0, 1, 2), "all", "key a")} {
		checkReceive(t, r, logTo(1, 2, 4, 1, "all"), followerOf(2, 3, 4, 1, "all"), okTo(2, 1, 4, 1))
		checkReceive(t, r, logTo(1, 2, 4, 2, "all", "key a"), followerOf(2, 3, 4, 2, "all", "key a"), okTo(2, 1, 4, 2))
		checkReceive(t, r, logTo(1, 2, 4, 0, "all", "tag b", "tag c"), followerOf(2, 3, 4, 1, "all", "tag b", "tag c"), okTo(2, 1, 4, 3))
		checkReceive(t, r, logTo(0, 2, 6, 1, "all"), followerOf(2, 3, 6, 1, "all"), okTo(2, 0, 6, 1))
		checkPassedOver(t, r, logTo(1, 2, 4, 0))
		checkPassedOver(t, r, logTo(1, 2, 4, 0, "tag b", "all"))
		checkPassedOver(t, r, logTo(0, 2, 4, 1, "all"))
		checkPassedOver(t, r, logTo(0, 2, 3, 1, "all"))
	}
	// What it was told by others goes.
	next := withTells(askerOf(1, 3, 4, 3, 1, numbers(0, 1), "all"), tellTo(0, 1, 4, 3, 1, "all"))
	checkReceive(t, next, logTo(2, 1, 5, 1, "all", "key a"), followerOf(1, 3, 5, 1, "all", "key a"), okTo(1, 2, 5, 2))
	checkReceive(t, next, logTo(0, 1, 6, 2, "all", "key a"), followerOf(1, 3, 6, 2, "all", "key a"), okTo(1, 0, 6, 2))
	checkPassedOver(t, next, logTo(0, 1, 4, 2, "all", "key a"))
	checkPassedOver(t, next, logTo(2, 1, 4, 2, "all", "key a"))
	checkPassedOver(t, next, logTo(0, 1, 3, 2, "all", "key a"))
	checkPassedOver(t, next, logTo(2, 1, 5, 2, "key a", "key a"))
}

func TestReceiveMsLogWhereOneLeads(t *testing.T) {
	leader := leaderOf(3, 4, 1, numbers(1, 2, 0), "all", "key a")
	for _, from := range []int64{0, 2} {
		checkPassedOver(t, leader, logTo(from, 1, 4, 3, "all", "key a", "tag b"))
		checkPassedOver(t, leader, logTo(from, 1, 4, 1, "all", "key a"))
		checkPassedOver(t, leader, logTo(from, 1, 4, 1, "all"))
		checkPassedOver(t, leader, logTo(from, 1, 3, 3, "all", "key a", "tag b"))
		checkPassedOver(t, leader, logTo(from, 1, 2, 3, "all", "key a", "tag b"))
		checkPassedOver(t, leader, logTo(from, 1, 7, 3, "all", "key a", "tag b"))
	}
	// It leads no more: there is a View above its own.
	checkReceive(t, leader, logTo(2, 1, 5, 1, "all"), followerOf(1, 3, 5, 1, "all"), okTo(1, 2, 5, 1))
	checkReceive(t, leader, logTo(0, 1, 6, 2, "all", "tag b", "tag c"), followerOf(1, 3, 6, 2, "all", "tag b", "tag c"), okTo(1, 0, 6, 3))
	checkPassedOver(t, leader, logTo(2, 1, 5, 0))
	checkPassedOver(t, leader, logTo(2, 1, 5, 0, "key a", "key a"))
	full := quietLog(60)
	checkReceive(t, followerOf(1, 3, 0, 59, full...), logTo(0, 1, 0, 60, full...), followerOf(1, 3, 0, 60, full...), okTo(1, 0, 0, 60))
}

func TestReceiveMsOk(t *testing.T) {
	texts := []string{"all", "key a", "tag b"}
	leader := leaderOf(3, 4, 0, numbers(1, 3, 0), texts...)
	for _, test := range []struct {
		from, count int64
		oks         []int64
		commit      int64
	}{
		{0, 0, numbers(1, 3, 0), 1},
		{0, 1, numbers(1, 3, 0), 1},
		{0, 2, numbers(2, 3, 0), 2},
		{0, 3, numbers(3, 3, 0), 3},
		{0, 4, numbers(3, 3, 0), 3},
		{0, 60, numbers(3, 3, 0), 3},
		{2, 0, numbers(1, 3, 0), 1},
		{2, 1, numbers(1, 3, 1), 1},
		{2, 2, numbers(1, 3, 2), 2},
		{2, 3, numbers(1, 3, 3), 3},
		{2, 5, numbers(1, 3, 3), 3},
	} {
		checkReceive(t, leader, okTo(test.from, 1, 4, test.count), leaderOf(3, 4, test.commit, test.oks, texts...))
		// What was committed stays.
		three := leaderOf(3, 4, 3, numbers(1, 3, 0), texts...)
		checkReceive(t, three, okTo(test.from, 1, 4, test.count), leaderOf(3, 4, 3, test.oks, texts...))
		// Of another View, from itself, or to another one.
		for _, view := range []int64{0, 1, 3, 5, 7, 10000} {
			checkPassedOver(t, leader, okTo(test.from, 1, view, test.count))
		}
		checkPassedOver(t, leader, okTo(1, 1, 4, test.count))
		checkPassedOver(t, leader, okTo(test.from, 0, 4, test.count))
		checkPassedOver(t, leader, okTo(test.from, 2, 4, test.count))
		// One that does not lead does not count.
		checkPassedOver(t, followerOf(1, 3, 3, 0, texts...), okTo(test.from, 1, 3, test.count))
		checkPassedOver(t, followerOf(1, 3, 5, 0, texts...), okTo(test.from, 1, 5, test.count))
		checkPassedOver(t, askerOf(1, 3, 4, 3, 0, numbers(0, 1, 2), texts...), okTo(test.from, 1, 4, test.count))
		checkPassedOver(t, askerOf(1, 3, 5, 3, 0, numbers(0, 1, 2), texts...), okTo(test.from, 1, 5, test.count))
	}
	for _, count := range []int64{-1, 61, 62, 1 << 32, least, greatest} {
		checkPassedOver(t, leader, okTo(0, 1, 4, count))
	}
	five := leaderOf(5, 0, 0, numbers(2, 0, 0, 0, 0), "all", "key a")
	checkReceive(t, five, okTo(3, 0, 0, 2), leaderOf(5, 0, 0, numbers(2, 0, 0, 2, 0), "all", "key a"))
	checkReceive(t, leaderOf(5, 0, 0, numbers(2, 0, 0, 2, 0), "all", "key a"), okTo(1, 0, 0, 1), leaderOf(5, 0, 1, numbers(2, 1, 0, 2, 0), "all", "key a"))
	checkReceive(t, leaderOf(5, 0, 1, numbers(2, 1, 0, 2, 0), "all", "key a"), okTo(4, 0, 0, 2), leaderOf(5, 0, 2, numbers(2, 1, 0, 2, 2), "all", "key a"))
	// Neither Last nor a right log of it tells anything.
	m := okTo(0, 1, 4, 3)
	m.Last, m.Log = 2, []string{"tag c"}
	checkReceive(t, leader, m, leaderOf(3, 4, 3, numbers(3, 3, 0), texts...))
	m.Log = []string{"x"}
	checkPassedOver(t, leader, m)
}

func TestReceiveMsChange(t *testing.T) {
	// Of a View above one's own; with the one who asked these are a majority of three.
	leader := leaderOf(3, 0, 1, numbers(2, 1, 0), "all", "key a")
	checkReceive(t, leader, changeTo(1, 0, 1), askerOf(0, 3, 1, 0, 1, numbers(0, 1), "all", "key a"), changeTo(0, 1, 1), changeTo(0, 2, 1), tellTo(0, 1, 1, 0, 1, "all", "key a"))
	checkReceive(t, leader, changeTo(2, 0, 1), askerOf(0, 3, 1, 0, 1, numbers(0, 2), "all", "key a"), changeTo(0, 1, 1), changeTo(0, 2, 1), tellTo(0, 1, 1, 0, 1, "all", "key a"))
	checkReceive(t, leader, changeTo(2, 0, 10000), askerOf(0, 3, 10000, 0, 1, numbers(0, 2), "all", "key a"), changeTo(0, 1, 10000), changeTo(0, 2, 10000), tellTo(0, 1, 10000, 0, 1, "all", "key a"))
	// The next one is itself: its own tell is there, but is no majority.
	own := tellTo(0, 0, 3, 0, 1, "all", "key a")
	checkReceive(t, leader, changeTo(2, 0, 3), withTells(askerOf(0, 3, 3, 0, 1, numbers(0, 2), "all", "key a"), own), changeTo(0, 1, 3), changeTo(0, 2, 3))
	follower := followerOf(4, 5, 2, 0, "all")
	checkReceive(t, follower, changeTo(1, 4, 3), askerOf(4, 5, 3, 2, 0, numbers(1, 4), "all"), changeTo(4, 0, 3), changeTo(4, 1, 3), changeTo(4, 2, 3), changeTo(4, 3, 3))
	checkReceive(t, follower, changeTo(1, 4, 4), askerOf(4, 5, 4, 2, 0, numbers(1, 4), "all"), changeTo(4, 0, 4), changeTo(4, 1, 4), changeTo(4, 2, 4), changeTo(4, 3, 4))
	// One that asks already asks for the View above, and what it was told is gone.
	asker := withTells(askerOf(1, 3, 4, 2, 1, numbers(0, 1), "all"), tellTo(0, 1, 4, 3, 1, "all"))
	checkReceive(t, asker, changeTo(2, 1, 5), askerOf(1, 3, 5, 2, 1, numbers(1, 2), "all"), changeTo(1, 0, 5), changeTo(1, 2, 5), tellTo(1, 2, 5, 2, 1, "all"))
	checkReceive(t, asker, changeTo(2, 1, 7), withTells(askerOf(1, 3, 7, 2, 1, numbers(1, 2), "all"), tellTo(1, 1, 7, 2, 1, "all")), changeTo(1, 0, 7), changeTo(1, 2, 7))
	// Of a View below, and of one's own where one is Normal.
	for _, r := range []impl.Replica{leaderOf(3, 4, 1, numbers(0, 1, 1), "all"), followerOf(1, 3, 5, 1, "all"), askerOf(1, 3, 4, 0, 0, numbers(1))} {
		for view := range r.View + 1 {
			if r.Normal || view < r.View {
				checkPassedOver(t, r, changeTo(0, 1, view))
				checkPassedOver(t, r, changeTo(2, 1, view))
			}
		}
	}
}

func TestReceiveMsChangeOfOnesOwnView(t *testing.T) {
	// Of three it makes a majority at once, and never again.
	asker := askerOf(0, 3, 4, 2, 1, numbers(0), "all")
	two := askerOf(0, 3, 4, 2, 1, numbers(0, 1), "all")
	checkReceive(t, asker, changeTo(1, 0, 4), two, changeTo(0, 1, 4), changeTo(0, 2, 4), tellTo(0, 1, 4, 2, 1, "all"))
	checkReceive(t, asker, changeTo(2, 0, 4), askerOf(0, 3, 4, 2, 1, numbers(0, 2), "all"), changeTo(0, 1, 4), changeTo(0, 2, 4), tellTo(0, 1, 4, 2, 1, "all"))
	checkPassedOver(t, two, changeTo(1, 0, 4))
	checkReceive(t, two, changeTo(2, 0, 4), askerOf(0, 3, 4, 2, 1, numbers(0, 1, 2), "all"))
	checkPassedOver(t, askerOf(0, 3, 4, 2, 1, numbers(0, 1, 2), "all"), changeTo(2, 0, 4))
	// Of five the third one does.
	five := askerOf(2, 5, 4, 2, 0, numbers(2), "all")
	checkReceive(t, five, changeTo(3, 2, 4), askerOf(2, 5, 4, 2, 0, numbers(2, 3), "all"))
	checkReceive(t, five, changeTo(0, 2, 4), askerOf(2, 5, 4, 2, 0, numbers(0, 2), "all"))
	checkPassedOver(t, askerOf(2, 5, 4, 2, 0, numbers(2, 3), "all"), changeTo(3, 2, 4))
	checkReceive(t, askerOf(2, 5, 4, 2, 0, numbers(2, 3), "all"), changeTo(0, 2, 4), askerOf(2, 5, 4, 2, 0, numbers(0, 2, 3), "all"),
		changeTo(2, 0, 4), changeTo(2, 1, 4), changeTo(2, 3, 4), changeTo(2, 4, 4), tellTo(2, 4, 4, 2, 0, "all"))
	checkReceive(t, askerOf(2, 5, 4, 2, 0, numbers(0, 2, 3), "all"), changeTo(1, 2, 4), askerOf(2, 5, 4, 2, 0, numbers(0, 1, 2, 3), "all"))
	// The next one is itself. With a tell of another one that came ahead it leads now.
	next := askerOf(1, 3, 4, 2, 1, numbers(1), "all")
	own := tellTo(1, 1, 4, 2, 1, "all")
	checkReceive(t, next, changeTo(0, 1, 4), withTells(askerOf(1, 3, 4, 2, 1, numbers(0, 1), "all"), own), changeTo(1, 0, 4), changeTo(1, 2, 4))
	early := withTells(next, tellTo(0, 1, 4, 3, 2, "all", "key a"))
	checkReceive(t, early, changeTo(2, 1, 4), leaderOf(3, 4, 2, numbers(0, 2, 0), "all", "key a"), logTo(1, 0, 4, 2, "all", "key a"), logTo(1, 2, 4, 2, "all", "key a"))
	// Where it was a majority before, one more changes nothing but Changes.
	waiting := withTells(askerOf(1, 3, 4, 2, 1, numbers(0, 1), "all"), tellTo(0, 1, 4, 3, 2, "all", "key a"))
	more := waiting
	more.Changes = numbers(0, 1, 2)
	checkReceive(t, waiting, changeTo(2, 1, 4), more)
	// Last, Log and Commit of the message tell nothing.
	m := impl.Message{Kind: 3, From: 2, To: 0, View: 4, Last: 4, Log: []string{"tag b"}, Commit: 1}
	checkReceive(t, two, m, askerOf(0, 3, 4, 2, 1, numbers(0, 1, 2), "all"))
}

func TestReceiveMsTell(t *testing.T) {
	// Of a View above one's own: these two are a majority of three, of Changes and of Tells, and it leads at once.
	follower := followerOf(1, 3, 3, 1, "all")
	checkReceive(t, follower, tellTo(0, 1, 4, 3, 1, "all", "key a"), leaderOf(3, 4, 1, numbers(0, 2, 0), "all", "key a"), logTo(1, 0, 4, 1, "all", "key a"), logTo(1, 2, 4, 1, "all", "key a"))
	checkReceive(t, leaderOf(3, 1, 0, numbers(0, 1, 0), "all"), tellTo(2, 1, 10000, 0, 0), leaderOf(3, 10000, 0, numbers(0, 1, 0), "all"), logTo(1, 0, 10000, 0, "all"), logTo(1, 2, 10000, 0, "all"))
	// Of five they are none.
	five := followerOf(2, 5, 3, 0, "all")
	m := tellTo(4, 2, 7, 0, 0, "key a")
	checkReceive(t, five, m, withTells(askerOf(2, 5, 7, 3, 0, numbers(2, 4), "all"), m), changeTo(2, 0, 7), changeTo(2, 1, 7), changeTo(2, 3, 7), changeTo(2, 4, 7))
	// Of one's own View: the second one changes no View, and nothing is told but by one that leads now.
	two := withTells(askerOf(2, 5, 7, 3, 0, numbers(2, 4), "all"), m)
	own, third := tellTo(2, 2, 7, 3, 0, "all"), tellTo(0, 2, 7, 2, 0, "all", "all")
	checkReceive(t, two, third, leaderOf(5, 7, 0, numbers(0, 0, 1, 0, 0), "all"), logTo(2, 0, 7, 0, "all"), logTo(2, 1, 7, 0, "all"), logTo(2, 3, 7, 0, "all"), logTo(2, 4, 7, 0, "all"))
	alone := askerOf(2, 5, 7, 3, 0, numbers(2), "all")
	checkReceive(t, alone, third, withTells(askerOf(2, 5, 7, 3, 0, numbers(0, 2), "all"), third))
	many := askerOf(2, 5, 7, 3, 0, numbers(1, 2, 3), "all")
	checkReceive(t, many, third, withTells(askerOf(2, 5, 7, 3, 0, numbers(0, 1, 2, 3), "all"), third, own))
	// One more tell of the same one is in the place of the first.
	again := tellTo(4, 2, 7, 6, 1, "tag b")
	checkReceive(t, two, again, withTells(askerOf(2, 5, 7, 3, 0, numbers(2, 4), "all"), again))
	checkPassedOver(t, two, m)
	// To one who is not the next one of that View, be it above or one's own; of a View below; where one is Normal.
	for _, view := range []int64{3, 5, 6, 8, 9, 10000} {
		checkPassedOver(t, followerOf(2, 5, 3, 0, "all"), tellTo(4, 2, view, 0, 0))
		checkPassedOver(t, askerOf(2, 5, 3, 2, 0, numbers(2, 4), "all"), tellTo(4, 2, view, 0, 0))
	}
	checkPassedOver(t, two, tellTo(0, 2, 2, 0, 0, "all", "all", "all"))
	checkPassedOver(t, two, tellTo(0, 2, 6, 6, 0, "all"))
	checkPassedOver(t, leaderOf(5, 7, 0, numbers(0, 0, 1, 0, 0), "all"), third)
	checkPassedOver(t, leaderOf(3, 4, 0, numbers(0, 1, 0), "all"), tellTo(0, 1, 4, 4, 2, "all", "key a"))
	// Above one's own: what was told for the View below is gone.
	above := tellTo(0, 2, 12, 11, 1, "tag b")
	checkReceive(t, two, above, withTells(askerOf(2, 5, 12, 3, 0, numbers(0, 2), "all"), above), changeTo(2, 0, 12), changeTo(2, 1, 12), changeTo(2, 3, 12), changeTo(2, 4, 12))
}

// Which log is taken: the greatest Last, of these the longest, of these the first.
func TestReceiveMsTellTakesTheBestLog(t *testing.T) {
	for _, test := range []struct {
		own  impl.Replica
		come impl.Message
		want []string
	}{
		{askerOf(1, 3, 7, 2, 0, numbers(1), "all"), tellTo(0, 1, 7, 3, 0, "key a"), []string{"key a"}},
		{askerOf(1, 3, 7, 2, 0, numbers(1), "all", "all"), tellTo(0, 1, 7, 3, 0), nil},
		{askerOf(1, 3, 7, 2, 0, numbers(1), "all", "all"), tellTo(2, 1, 7, 7, 0, "key a"), []string{"key a"}},
		{askerOf(1, 3, 7, 2, 0, numbers(1), "all"), tellTo(0, 1, 7, 1, 0, "key a", "key a"), []string{"all"}},
		{askerOf(1, 3, 7, 2, 0, numbers(1)), tellTo(2, 1, 7, 1, 0, "key a", "key a"), nil},
		{askerOf(1, 3, 7, 2, 0, numbers(1), "all"), tellTo(0, 1, 7, 2, 0, "key a", "key a"), []string{"key a", "key a"}},
		{askerOf(1, 3, 7, 2, 0, numbers(1), "all"), tellTo(2, 1, 7, 2, 0, "key a", "key a"), []string{"key a", "key a"}},
		{askerOf(1, 3, 7, 2, 0, numbers(1), "all", "all"), tellTo(0, 1, 7, 2, 0, "key a"), []string{"all", "all"}},
		{askerOf(1, 3, 7, 2, 0, numbers(1), "all"), tellTo(0, 1, 7, 2, 0, "key a"), []string{"key a"}},
		{askerOf(1, 3, 7, 2, 0, numbers(1), "all"), tellTo(2, 1, 7, 2, 0, "key a"), []string{"all"}},
		{askerOf(1, 3, 7, 0, 0, numbers(1), "tag z"), tellTo(0, 1, 7, 0, 0, "key a"), []string{"key a"}},
		{askerOf(1, 3, 7, 0, 0, numbers(1), "key a"), tellTo(0, 1, 7, 0, 0, "tag z"), []string{"tag z"}},
		{askerOf(1, 3, 7, 0, 0, numbers(1)), tellTo(0, 1, 7, 0, 0), nil},
		{askerOf(1, 3, 7, 0, 0, numbers(1)), tellTo(0, 1, 7, 1, 0, quietLog(60)...), quietLog(60)},
	} {
		entries := int64(len(test.want))
		want := leaderOf(3, 7, 0, numbers(0, entries, 0), test.want...)
		checkReceive(t, test.own, test.come, want, logTo(1, 0, 7, 0, test.want...), logTo(1, 2, 7, 0, test.want...))
		// Whatever was told by one in whose place it comes.
		worse := tellTo(test.come.From, 1, 7, 7, 3, "tag c", "tag d", "tag e")
		checkReceive(t, withTells(test.own, worse), test.come, want, logTo(1, 0, 7, 0, test.want...), logTo(1, 2, 7, 0, test.want...))
		// Whatever stood there of itself.
		stale := tellTo(1, 1, 7, 7, 3, "tag c", "tag d", "tag e")
		checkReceive(t, withTells(test.own, stale), test.come, want, logTo(1, 0, 7, 0, test.want...), logTo(1, 2, 7, 0, test.want...))
	}
	// Of three that are told the one in the middle may be the best; alike ones come in the order of the servers.
	own := askerOf(1, 5, 6, 3, 0, numbers(0, 1, 4), "all", "all")
	first, last := tellTo(0, 1, 6, 3, 0, "key a", "key b"), tellTo(4, 1, 6, 3, 0, "tag c", "tag d")
	for _, told := range [][2]impl.Message{{first, last}, {last, first}} {
		got, list := impl.Receive(withTells(own, told[0]), told[1])
		if !got.Normal || !slices.Equal(got.Log, first.Log) || len(list) != 4 {
			t.Errorf("of alike ones: %s, %s", shown(got), shown(list))
		}
	}
	first.Log, last.Last = nil, 4
	checkReceive(t, withTells(own, first), last, leaderOf(5, 6, 0, numbers(0, 2, 0, 0, 0), "tag c", "tag d"), logTo(1, 0, 6, 0, "tag c", "tag d"), logTo(1, 2, 6, 0, "tag c", "tag d"), logTo(1, 3, 6, 0, "tag c", "tag d"), logTo(1, 4, 6, 0, "tag c", "tag d"))
}

// Commit is the greatest that is told, but at most the log's length; and the log has to begin with what was agreed on.
func TestReceiveMsTellAndWhatWasAgreedOn(t *testing.T) {
	own := askerOf(1, 3, 4, 2, 1, numbers(1), "all", "key a")
	for _, test := range []struct {
		come   impl.Message
		commit int64
		log    []string
	}{
		{tellTo(0, 1, 4, 3, 0, "all", "tag b", "tag c"), 1, []string{"all", "tag b", "tag c"}},
		{tellTo(0, 1, 4, 3, 1, "all", "tag b", "tag c"), 1, []string{"all", "tag b", "tag c"}},
		{tellTo(0, 1, 4, 3, 2, "all", "tag b", "tag c"), 2, []string{"all", "tag b", "tag c"}},
		{tellTo(0, 1, 4, 3, 3, "all", "tag b", "tag c"), 3, []string{"all", "tag b", "tag c"}},
		{tellTo(2, 1, 4, 3, 0, "all"), 1, []string{"all"}},
		{tellTo(2, 1, 4, 1, 2, "tag b", "tag c", "tag d"), 2, []string{"all", "key a"}},
		{tellTo(2, 1, 4, 1, 3, "tag b", "tag c", "tag d"), 2, []string{"all", "key a"}},
		{tellTo(0, 1, 4, 0, 1, "all"), 1, []string{"all", "key a"}},
	} {
		entries := int64(len(test.log))
		checkReceive(t, own, test.come, leaderOf(3, 4, test.commit, numbers(0, entries, 0), test.log...), logTo(1, 0, 4, test.commit, test.log...), logTo(1, 2, 4, test.commit, test.log...))
	}
	// A log that parts from what was agreed on makes nobody Normal; both tells stay.
	mine := tellTo(1, 1, 4, 2, 1, "all", "key a")
	for _, come := range []impl.Message{tellTo(0, 1, 4, 3, 0), tellTo(0, 1, 4, 3, 1, "key a"), tellTo(0, 1, 4, 4, 2, "key a", "all"), tellTo(0, 1, 4, 2, 0, "key a", "all"), tellTo(0, 1, 4, 2, 0, "tag b", "all", "all")} {
		stuck := withTells(askerOf(1, 3, 4, 2, 1, numbers(0, 1), "all", "key a"), come, mine)
		checkReceive(t, own, come, stuck)
		checkPassedOver(t, stuck, come)
		// A better one that comes frees it.
		better := tellTo(2, 1, 4, 4, 0, "all", "tag e", "tag f")
		commit := min(max(come.Commit, 1), 3)
		checkReceive(t, stuck, better, leaderOf(3, 4, commit, numbers(0, 3, 0), better.Log...), logTo(1, 0, 4, commit, better.Log...), logTo(1, 2, 4, commit, better.Log...))
	}
	// It asked for the View: then all are told that it does.
	follower := followerOf(1, 3, 2, 1, "all", "key a")
	come := tellTo(0, 1, 4, 3, 0)
	checkReceive(t, follower, come, withTells(askerOf(1, 3, 4, 2, 1, numbers(0, 1), "all", "key a"), come, mine), changeTo(1, 0, 4), changeTo(1, 2, 4))
	follower.Commit = 2
	come.Log = []string{"all", "key b"}
	mine.Commit = 2
	checkReceive(t, follower, come, withTells(askerOf(1, 3, 4, 2, 2, numbers(0, 1), "all", "key a"), come, mine), changeTo(1, 0, 4), changeTo(1, 2, 4))
}

// What is told where Changes are no majority waits till they are one.
func TestTellsWaitForChanges(t *testing.T) {
	told := []impl.Message{tellTo(0, 2, 7, 3, 1, "all"), tellTo(1, 2, 7, 4, 1, "all", "key a"), tellTo(3, 2, 7, 3, 0)}
	r := withTells(askerOf(2, 5, 7, 0, 0, numbers(2)), told...)
	checkReceive(t, r, changeTo(4, 2, 7), withTells(askerOf(2, 5, 7, 0, 0, numbers(2, 4)), told...))
	r.Changes = numbers(2, 4)
	log := []string{"all", "key a"}
	checkReceive(t, r, changeTo(3, 2, 7), leaderOf(5, 7, 1, numbers(0, 0, 2, 0, 0), log...), logTo(2, 0, 7, 1, log...), logTo(2, 1, 7, 1, log...), logTo(2, 3, 7, 1, log...), logTo(2, 4, 7, 1, log...))
}

// A message that is not right, from itself or to another one is passed over, whatever its Kind.
func TestReceiveOfWrongMessages(t *testing.T) {
	for _, r := range rightReplicas() {
		other := (r.Id + 1) % max(r.Peers, 2)
		for kind := int64(1); kind <= 4; kind++ {
			for _, view := range []int64{r.View, min(r.View+1, 10000), min(r.View+2, 10000), min(r.View+3, 10000)} {
				m := impl.Message{Kind: kind, From: other, To: r.Id, View: view, Last: view, Log: slices.Clone(r.Log), Commit: r.Commit}
				for _, wrong := range wrongMessages(m, r.Peers) {
					checkPassedOver(t, r, wrong)
				}
			}
		}
		checkPassedOver(t, r, impl.Message{})
		checkPassedOver(t, r, logTo(r.View%r.Peers, r.Id, r.View, 0, quietLog(100000)...))
	}
}

// wrongMessages are not right, or from the one to whom they go, or to another one: by one thing each.
func wrongMessages(m impl.Message, peers int64) []impl.Message {
	var list []impl.Message
	add := func(change func(*impl.Message)) {
		wrong := newMessageOf(m)
		change(&wrong)
		list = append(list, wrong)
	}
	for _, kind := range farKinds {
		if kind != 4 {
			add(func(m *impl.Message) { m.Kind = kind })
		}
	}
	for _, far := range append(slices.Clone(farNumbers), peers, peers+1) {
		add(func(m *impl.Message) { m.From = far })
		add(func(m *impl.Message) { m.To = far })
		add(func(m *impl.Message) { m.From, m.To = m.To, far })
	}
	for _, far := range farNumbers {
		add(func(m *impl.Message) { m.View = far })
		add(func(m *impl.Message) { m.View, m.Last = far, far })
		add(func(m *impl.Message) { m.View, m.Last = far, 0 })
		add(func(m *impl.Message) { m.Last = far })
		add(func(m *impl.Message) { m.Commit = far })
	}
	add(func(m *impl.Message) { m.From = m.To })
	for server := range peers {
		if server != m.To {
			add(func(m *impl.Message) { m.To = server })
		}
	}
	add(func(m *impl.Message) { m.Last = m.View + 1 })
	add(func(m *impl.Message) { m.Log = append(m.Log, "x") })
	add(func(m *impl.Message) { m.Log = append([]string{""}, m.Log...) })
	add(func(m *impl.Message) { m.Log = append(m.Log, quietLog(61-len(m.Log))...) })
	if m.Kind == 2 {
		add(func(m *impl.Message) { m.Commit = 61 })
	} else {
		add(func(m *impl.Message) { m.Commit = int64(len(m.Log)) + 1 })
	}
	return list
}

func TestStop(t *testing.T) {
	// One that leads counts anew.
	checkStop(t, leaderOf(3, 0, 0, numbers(0, 0, 0)), leaderOf(3, 0, 0, numbers(0, 0, 0)))
	checkStop(t, leaderOf(3, 4, 2, numbers(2, 3, 3), "all", "key a", "tag b"), leaderOf(3, 4, 0, numbers(0, 3, 0), "all", "key a", "tag b"))
	checkStop(t, leaderOf(5, 10000, 1, numbers(1, 1, 1, 1, 1), "all"), leaderOf(5, 10000, 0, numbers(1, 0, 0, 0, 0), "all"))
	// Alone it is a majority.
	checkStop(t, leaderOf(1, 3, 2, numbers(2), "all", "key a"), leaderOf(1, 3, 2, numbers(2), "all", "key a"))
	checkStop(t, leaderOf(1, 3, 0, numbers(2), "all", "key a"), leaderOf(1, 3, 2, numbers(2), "all", "key a"))
	checkStop(t, leaderOf(1, 0, 0, numbers(0)), leaderOf(1, 0, 0, numbers(0)))
	// One that follows.
	checkStop(t, followerOf(1, 3, 0, 0), followerOf(1, 3, 0, 0))
	checkStop(t, followerOf(1, 3, 9, 2, "all", "key a"), followerOf(1, 3, 9, 0, "all", "key a"))
	checkStop(t, followerOf(0, 3, 10000, 60, quietLog(60)...), followerOf(0, 3, 10000, 0, quietLog(60)...))
	// One that asks does so still.
	checkStop(t, askerOf(0, 3, 4, 2, 1, numbers(0), "all"), askerOf(0, 3, 4, 2, 0, numbers(0), "all"))
	checkStop(t, askerOf(0, 3, 4, 2, 1, numbers(0, 1, 2), "all"), askerOf(0, 3, 4, 2, 0, numbers(0), "all"))
	checkStop(t, askerOf(4, 5, 10000, 9999, 1, numbers(0, 2, 4), "all"), askerOf(4, 5, 10000, 9999, 0, numbers(4), "all"))
	checkStop(t, withTells(askerOf(1, 3, 4, 2, 1, numbers(0, 1), "all"), tellTo(0, 1, 4, 3, 1, "all"), tellTo(1, 1, 4, 2, 1, "all")), askerOf(1, 3, 4, 2, 0, numbers(1), "all"))
	// Alone, too: nothing was told yet.
	checkStop(t, askerOf(0, 1, 4, 2, 1, numbers(0), "all"), askerOf(0, 1, 4, 2, 0, numbers(0), "all"))
	for _, r := range rightReplicas() {
		once := impl.Stop(r)
		checkStop(t, r, plainStop(r))
		checkStop(t, once, once)
	}
}

func deepMessage(m impl.Message) impl.Message {
	m.Log = slices.Clone(m.Log)
	for i, text := range m.Log {
		m.Log[i] = strings.Clone(text)
	}
	return m
}

func deepReplica(r impl.Replica) impl.Replica {
	r.Log = deepMessage(impl.Message{Log: r.Log}).Log
	r.Oks, r.Changes, r.Tells = slices.Clone(r.Oks), slices.Clone(r.Changes), slices.Clone(r.Tells)
	for i, m := range r.Tells {
		r.Tells[i] = deepMessage(m)
	}
	return r
}

// drawnEntries mostly begin alike, so that one log often begins with another.
func drawnEntries(source *rand.Rand) []string {
	count := source.Intn(5)
	if source.Intn(12) == 0 {
		count = 57 + source.Intn(4)
	}
	log := make([]string, count)
	for i := range log {
		log[i] = fmt.Sprint("key k", i)
		if source.Intn(10) == 0 {
			log[i] = []string{"all", "tag t", "begin k"}[source.Intn(3)]
		}
	}
	return log
}

func drawnView(source *rand.Rand) int64 {
	if source.Intn(6) == 0 {
		return 10000 - source.Int63n(7)
	}
	return source.Int63n(12)
}

// drawnChanges rise, and have the server itself.
func drawnChanges(source *rand.Rand, id, peers int64) []int64 {
	list := []int64{}
	for server := range peers {
		if server == id || source.Intn(2) == 0 {
			list = append(list, server)
		}
	}
	return list
}

func drawnTell(source *rand.Rand, from, to, view int64) impl.Message {
	log := drawnEntries(source)
	return tellTo(from, to, view, source.Int63n(view+1), source.Int63n(int64(len(log))+1), log...)
}

// drawnReplica is right.
func drawnReplica(source *rand.Rand) impl.Replica {
	r := impl.Replica{Peers: []int64{1, 3, 3, 3, 5, 5}[source.Intn(6)], View: drawnView(source), Log: drawnEntries(source)}
	r.Id = source.Int63n(r.Peers)
	entries := int64(len(r.Log))
	r.Commit = source.Int63n(entries + 1)
	if source.Intn(3) == 0 {
		r.Commit = 0
	}
	if source.Intn(2) == 0 {
		r.Id = r.View % r.Peers
	}
	next := r.View%r.Peers == r.Id
	if r.View == 0 || source.Intn(2) == 0 {
		r.Normal, r.Last = true, r.View
		for i := int64(0); next && i < r.Peers; i++ {
			r.Oks = append(r.Oks, source.Int63n(entries+1))
		}
		if next {
			r.Oks[r.Id] = entries
		}
		return r
	}
	r.Last = source.Int63n(r.View)
	r.Changes = drawnChanges(source, r.Id, r.Peers)
	for from := int64(0); next && from < r.Peers; from++ {
		if source.Intn(3) == 0 {
			r.Tells = append(r.Tells, drawnTell(source, from, r.Id, r.View))
		}
	}
	return r
}

// drawnMessage is mostly right and to r, and often such as r waits for.
func drawnMessage(source *rand.Rand, r impl.Replica) impl.Message {
	log := drawnEntries(source)
	m := impl.Message{Kind: 1 + source.Int63n(4), From: source.Int63n(r.Peers), To: r.Id, View: r.View, Log: log}
	switch source.Intn(8) {
	case 0:
		m.View--
	case 1, 2, 3:
		m.View += source.Int63n(4)
	case 4:
		m.View = drawnView(source)
	}
	m.Last = source.Int63n(max(m.View, 0) + 1)
	if source.Intn(2) == 0 {
		m.Log = append(slices.Clone(r.Log[:r.Commit]), log...)
		m.Log = m.Log[:min(len(m.Log), 60)]
	}
	m.Commit = source.Int63n(int64(len(m.Log)) + 1)
	switch m.Kind {
	case 1:
		if source.Intn(5) > 0 && m.View >= 0 {
			m.From, m.Last = m.View%r.Peers, m.View
		}
	case 2:
		m.Log, m.Commit = nil, source.Int63n(6)
		if source.Intn(5) == 0 {
			m.Log, m.Commit = log, source.Int63n(61)
		}
	case 4:
		for source.Intn(5) > 0 && m.View < 10000 && m.View%r.Peers != r.Id {
			m.View++
		}
	}
	if source.Intn(25) == 0 {
		wrong := wrongMessages(m, r.Peers)
		m = wrong[source.Intn(len(wrong))]
	}
	return m
}

// standOf tells by what a replica stands.
func standOf(r impl.Replica) string {
	switch {
	case plainLeads(r):
		return "leads"
	case r.Normal:
		return "follows"
	case r.View%r.Peers == r.Id:
		return "is next"
	}
	return "asks"
}

func checkReceivedAsTold(t *testing.T, r impl.Replica, m impl.Message) (impl.Replica, []impl.Message) {
	t.Helper()
	got, list := impl.Receive(r, m)
	want, told := plainReceive(r, m)
	if !sameReplica(got, want) || !sameMessages(list, told) {
		t.Fatalf("Receive(%s, %s):\n%s, %s, not\n%s, %s", shown(r), shown(m), shown(got), shown(list), shown(want), shown(told))
	}
	return got, list
}

// checkActsAsTold asks all that does not hang on a message.
func checkActsAsTold(t *testing.T, r impl.Replica, text string) {
	t.Helper()
	if is := impl.ReplicaOk(r); is != plainReplicaOk(r) {
		t.Fatalf("ReplicaOk(%s): %v", shown(r), is)
	}
	if list := impl.Spread(r); !sameMessages(list, plainSpread(r)) {
		t.Fatalf("Spread(%s): %s, not %s", shown(r), shown(list), shown(plainSpread(r)))
	}
	got, list, number := impl.Submit(r, text)
	want, told, count := plainSubmit(r, text)
	if !sameReplica(got, want) || !sameMessages(list, told) || number != count {
		t.Fatalf("Submit(%s, %.80q):\n%s, %s, %d, not\n%s, %s, %d", shown(r), text, shown(got), shown(list), number, shown(want), shown(told), count)
	}
	got, list = impl.Suspect(r)
	want, told = plainSuspect(r)
	if !sameReplica(got, want) || !sameMessages(list, told) {
		t.Fatalf("Suspect(%s):\n%s, %s, not\n%s, %s", shown(r), shown(got), shown(list), shown(want), shown(told))
	}
	if got := impl.Stop(r); !sameReplica(got, plainStop(r)) {
		t.Fatalf("Stop(%s):\n%s, not\n%s", shown(r), shown(got), shown(plainStop(r)))
	}
}

func TestDrawnReplicas(t *testing.T) {
	source := rand.New(rand.NewSource(48))
	seen := map[string]int{}
	for range 40000 {
		r := drawnReplica(source)
		if !plainReplicaOk(r) {
			t.Fatalf("%s was drawn", shown(r))
		}
		checkActsAsTold(t, r, []string{"all", "key a", "tag t", "x"}[source.Intn(4)])
		for range 4 {
			m := drawnMessage(source, r)
			got, list := checkReceivedAsTold(t, r, m)
			change := "stays"
			if !sameReplica(got, r) {
				change = standOf(got)
			}
			seen[fmt.Sprintf("kind %d, %s, %s, %v", m.Kind, standOf(r), change, len(list) > 0)]++
		}
	}
	for _, change := range []string{
		"kind 1, leads, follows, true", "kind 1, follows, follows, true", "kind 1, is next, follows, true", "kind 1, asks, follows, true",
		"kind 1, leads, stays, false", "kind 1, follows, stays, false", "kind 1, is next, stays, false", "kind 1, asks, stays, false",
		"kind 2, leads, leads, false", "kind 2, leads, stays, false", "kind 2, follows, stays, false",
		"kind 3, leads, asks, true", "kind 3, leads, is next, true", "kind 3, follows, asks, true", "kind 3, follows, is next, true",
		"kind 3, is next, leads, true", "kind 3, is next, is next, true", "kind 3, is next, is next, false", "kind 3, asks, asks, true", "kind 3, asks, asks, false", "kind 3, asks, stays, false",
		"kind 4, leads, leads, true", "kind 4, follows, leads, true", "kind 4, is next, leads, true", "kind 4, asks, leads, true",
		"kind 4, follows, is next, true", "kind 4, is next, is next, false", "kind 4, is next, is next, true", "kind 4, leads, stays, false",
	} {
		if seen[change] < 30 {
			t.Errorf("%s: %d times only", change, seen[change])
		}
	}
}

// A replica that was right is made wrong at one place or none, and all is asked of it.
func TestDrawnReplicasThatMayBeWrong(t *testing.T) {
	source := rand.New(rand.NewSource(49))
	right, wrong := 0, 0
	for range 20000 {
		r := deepReplica(drawnReplica(source))
		other := drawnReplica(source)
		far := farNumbers[source.Intn(len(farNumbers))]
		switch source.Intn(14) {
		case 0:
			r.Id = other.Id
		case 1:
			r.Peers = other.Peers
		case 2:
			r.View = other.View
		case 3:
			r.Last = other.Last
		case 4:
			r.Normal = !r.Normal
		case 5:
			r.Log = other.Log
		case 6:
			r.Commit = other.Commit
		case 7:
			r.Oks = other.Oks
		case 8:
			r.Changes = other.Changes
		case 9:
			r.Tells = other.Tells
		case 10:
			*[]*int64{&r.Id, &r.Peers, &r.View, &r.Last, &r.Commit}[source.Intn(5)] = far
		case 11:
			for _, list := range [][]int64{r.Oks, r.Changes} {
				if len(list) > 0 {
					list[source.Intn(len(list))] += source.Int63n(5) - 2
				}
			}
		case 12:
			if len(r.Tells) > 0 {
				r.Tells[source.Intn(len(r.Tells))] = drawnMessage(source, r)
			}
		case 13:
			r.View, r.Last = r.View+1, r.Last+source.Int63n(2)
		}
		checkActsAsTold(t, r, "all")
		checkReceivedAsTold(t, r, drawnMessage(source, drawnReplica(source)))
		if plainReplicaOk(r) {
			right++
		} else {
			wrong++
		}
	}
	if right < 2000 || wrong < 5000 {
		t.Errorf("%d right, %d wrong only", right, wrong)
	}
}

// checkGoesOn: what was right stays right, its View and Last do not fall, and what it committed it keeps.
func checkGoesOn(t *testing.T, was, is impl.Replica) {
	t.Helper()
	if !impl.ReplicaOk(is) || !plainReplicaOk(is) || is.Id != was.Id || is.Peers != was.Peers {
		t.Fatalf("%s became %s, which is not right", shown(was), shown(is))
	}
	if is.View < was.View || is.Last < was.Last || is.Commit < was.Commit {
		t.Fatalf("%s became %s: View, Last or Commit fell", shown(was), shown(is))
	}
	if !plainBegins(is.Log[:is.Commit], was.Log[:was.Commit]) {
		t.Fatalf("%s became %s: what was committed is not kept", shown(was), shown(is))
	}
}

// checkMessages: each is right, of the View in which it is told, and to another one; no two are to one with one Kind.
func checkMessages(t *testing.T, r impl.Replica, list []impl.Message) {
	t.Helper()
	for i, m := range list {
		if !plainMessageOk(m, r.Peers) || m.From != r.Id || m.To == r.Id || m.View != r.View {
			t.Fatalf("%s told %s", shown(r), shown(m))
		}
		for _, other := range list[:i] {
			if other.To == m.To && other.Kind == m.Kind {
				t.Fatalf("%s told %s twice", shown(r), shown(m))
			}
		}
	}
}

func TestARightReplicaStaysRight(t *testing.T) {
	source := rand.New(rand.NewSource(50))
	views, commits := 0, 0
	for round := range 4000 {
		r := drawnReplica(source)
		if round%2 == 0 {
			r, _ = impl.NewReplica(r.Id, r.Peers)
		}
		first := r
		for range 40 {
			was := deepReplica(r)
			var list []impl.Message
			switch source.Intn(12) {
			case 0:
				r, list = impl.Suspect(r)
			case 1, 2:
				r, list, _ = impl.Submit(r, []string{"all", "key k0", "key k1", "x"}[source.Intn(4)])
			case 3:
				list = impl.Spread(r)
			default:
				r, list = impl.Receive(r, drawnMessage(source, r))
			}
			checkGoesOn(t, was, r)
			checkMessages(t, r, list)
		}
		checkGoesOn(t, first, r)
		if r.View > first.View {
			views++
		}
		if r.Commit > first.Commit {
			commits++
		}
	}
	if views < 1000 || commits < 1000 {
		t.Errorf("%d views, %d commits only", views, commits)
	}
}

// What is stopped is right, and keeps all but what it counted and was told.
func TestWhatIsStoppedBeginsAnew(t *testing.T) {
	source := rand.New(rand.NewSource(51))
	for range 5000 {
		r := drawnReplica(source)
		s := impl.Stop(r)
		if !impl.ReplicaOk(s) || s.Id != r.Id || s.Peers != r.Peers || s.View != r.View || s.Normal != r.Normal || s.Last != r.Last || !slices.Equal(s.Log, r.Log) {
			t.Fatalf("Stop(%s): %s", shown(r), shown(s))
		}
		if s.Commit > 0 && r.Peers > 1 || len(s.Tells) > 0 || len(s.Changes) > 1 {
			t.Fatalf("Stop(%s): %s", shown(r), shown(s))
		}
		again := impl.Stop(s)
		if !sameReplica(again, s) {
			t.Fatalf("Stop(%s): %s", shown(s), shown(again))
		}
	}
}

// crowd is servers with messages under way between them, and the longest that was agreed on.
type crowd struct {
	t       *testing.T
	servers []impl.Replica
	under   []impl.Message
	agreed  []string
}

func newCrowd(t *testing.T, peers int64) *crowd {
	c := &crowd{t: t}
	for id := range peers {
		r, _ := impl.NewReplica(id, peers)
		c.servers = append(c.servers, r)
	}
	return c
}

func (c *crowd) put(id int64, r impl.Replica, list []impl.Message) {
	c.t.Helper()
	checkMessages(c.t, r, list)
	c.servers[id] = r
	c.under = append(c.under, list...)
	agreed := r.Log[:r.Commit]
	if !plainBegins(agreed, c.agreed[:min(len(c.agreed), len(agreed))]) {
		c.t.Fatalf("%q was agreed on, and %s agrees on another one", c.agreed, shown(r))
	}
	if len(agreed) > len(c.agreed) {
		c.agreed = slices.Clone(agreed)
	}
}

// deliver takes one that is under way, in any order.
func (c *crowd) deliver(at int, keep bool) {
	c.t.Helper()
	m := c.under[at]
	if !keep {
		c.under = slices.Delete(c.under, at, at+1)
	}
	was := c.servers[m.To]
	r, list := impl.Receive(was, m)
	checkGoesOn(c.t, was, r)
	c.put(m.To, r, list)
}

// calm delivers all in turn.
func (c *crowd) calm() {
	c.t.Helper()
	for count := 0; len(c.under) > 0; count++ {
		if count > 5000 {
			c.t.Fatalf("there is no end of messages: %s", shown(c.under))
		}
		c.deliver(0, false)
	}
}

func (c *crowd) suspect(id int64) {
	c.t.Helper()
	r, list := impl.Suspect(c.servers[id])
	c.put(id, r, list)
}

func (c *crowd) submit(id int64, text string) int64 {
	c.t.Helper()
	r, list, number := impl.Submit(c.servers[id], text)
	c.put(id, r, list)
	return number
}

func (c *crowd) leaders() []int64 {
	ids := []int64{}
	for id, r := range c.servers {
		if plainLeads(r) {
			ids = append(ids, int64(id))
		}
	}
	return ids
}

// The one who leads is gone; another one leads, and nothing that was agreed on is lost.
func TestAnotherOneLeads(t *testing.T) {
	for _, peers := range []int64{3, 5} {
		c := newCrowd(t, peers)
		for n := int64(1); n <= 3; n++ {
			if c.submit(0, fmt.Sprint("key k", n)) != n || c.submit(1, "all") != -1 {
				t.Fatal("who leads submits, and nobody else")
			}
			c.calm()
		}
		// The last one comes to nobody.
		c.submit(0, "key lost")
		c.under = nil
		c.servers[0] = impl.Stop(c.servers[0])
		if len(c.agreed) != 3 || c.servers[0].Commit != 0 || len(c.servers[0].Log) != 4 {
			t.Fatalf("%q, %s", c.agreed, shown(c.servers[0]))
		}
		c.suspect(1)
		c.suspect(2)
		// What goes to the one who is gone is lost.
		for len(c.under) > 0 {
			if c.under[0].To == 0 && peers == 3 {
				c.under = c.under[1:]
			} else {
				c.deliver(0, false)
			}
		}
		if !slices.Contains(c.leaders(), 1) || c.servers[1].View != 1 || len(c.servers[2].Log) != len(c.servers[1].Log) {
			t.Fatalf("of %d: %v, %s", peers, c.leaders(), shown(c.servers))
		}
		number := c.submit(1, "all")
		c.calm()
		if number != int64(len(c.agreed)) || c.agreed[number-1] != "all" || c.servers[1].Commit != number {
			t.Fatalf("number %d of %q", number, c.agreed)
		}
		// The old one comes again, and hears of it.
		c.under = append(c.under, impl.Spread(c.servers[1])...)
		c.calm()
		for _, r := range c.servers {
			if r.View != 1 || !r.Normal || !slices.Equal(r.Log, c.agreed) || r.Commit != number {
				t.Fatalf("%s", shown(r))
			}
		}
	}
}

// ONE LOG: whatever is lost, doubled or reordered and whoever stops, what was agreed on stays so.
func TestOneLogWhoeverStops(t *testing.T) {
	source := rand.New(rand.NewSource(52))
	longest, views, stops := 0, int64(0), 0
	for round := range 900 {
		c := newCrowd(t, []int64{3, 3, 5, 1}[round%4])
		peers := int64(len(c.servers))
		for step := range 150 {
			id := source.Int63n(peers)
			switch chance := source.Intn(40); {
			case chance < 24 && len(c.under) > 0:
				c.deliver(source.Intn(len(c.under)), source.Intn(6) == 0)
			case chance < 27 && len(c.under) > 0:
				at := source.Intn(len(c.under))
				c.under = slices.Delete(c.under, at, at+1)
			case chance < 33:
				for _, leader := range c.leaders() {
					c.submit(leader, fmt.Sprint("key k", step))
				}
			case chance < 35:
				c.suspect(id)
			case chance < 38:
				c.under = append(c.under, impl.Spread(c.servers[id])...)
			default:
				stops++
				c.put(id, impl.Stop(c.servers[id]), nil)
			}
			c.under = c.under[max(len(c.under)-40, 0):]
		}
		c.calm()
		longest = max(longest, len(c.agreed))
		views = max(views, c.servers[0].View)
	}
	if longest < 20 || views < 10 || stops < 1000 {
		t.Errorf("%d agreed on, %d Views, %d stops only", longest, views, stops)
	}
}

func messagesShare(a, b []impl.Message) bool {
	if cap(a) == 0 || cap(b) == 0 {
		return false
	}
	const size = unsafe.Sizeof(impl.Message{})
	fromA, fromB := uintptr(unsafe.Pointer(unsafe.SliceData(a))), uintptr(unsafe.Pointer(unsafe.SliceData(b)))
	return fromA < fromB+uintptr(cap(b))*size && fromB < fromA+uintptr(cap(a))*size
}

// memory is all the lists that something has.
type memory struct {
	logs     [][]string
	numbers  [][]int64
	messages [][]impl.Message
}

func memoryOf(r impl.Replica, list []impl.Message) memory {
	m := memory{logs: [][]string{r.Log}, numbers: [][]int64{r.Oks, r.Changes}, messages: [][]impl.Message{r.Tells, list}}
	for _, one := range append(slices.Clone(r.Tells[:cap(r.Tells)]), list[:cap(list)]...) {
		m.logs = append(m.logs, one.Log)
	}
	return m
}

// checkApart: no list of the one is one of the other, and no text; of one memory it asks each with each.
func checkApart(t *testing.T, a, b memory, itself bool) {
	t.Helper()
	for i, log := range a.logs {
		for j, other := range b.logs {
			if (!itself || i != j) && (textsListShare(log, other) || anyShares(log[:cap(log)], other[:cap(other)])) {
				t.Fatalf("logs %d and %d share memory: %.200q", i, j, log)
			}
		}
	}
	for i, list := range a.numbers {
		for j, other := range b.numbers {
			if (!itself || i != j) && numbersShare(list, other) {
				t.Fatalf("lists %d and %d share memory: %v", i, j, list)
			}
		}
	}
	for i, list := range a.messages {
		for j, other := range b.messages {
			if (!itself || i != j) && messagesShare(list, other) {
				t.Fatalf("messages %d and %d share memory: %s", i, j, shown(list))
			}
		}
	}
}

// writeOver writes wherever one who has the answer may, and behind it.
func (m memory) writeOver() {
	for _, log := range m.logs {
		for i := range log[:cap(log)] {
			log[:cap(log)][i] = "written"
		}
	}
	for _, list := range m.numbers {
		for i := range list[:cap(list)] {
			list[:cap(list)][i] = 77
		}
	}
	for _, list := range m.messages {
		clear(list[:cap(list)])
	}
}

func roomyMessage(m impl.Message) impl.Message {
	m.Log = roomyTexts(m.Log)
	return m
}

func roomyReplica(r impl.Replica) impl.Replica {
	r.Log, r.Oks, r.Changes = roomyTexts(r.Log), roomyNumbers(r.Oks), roomyNumbers(r.Changes)
	tells := make([]impl.Message, len(r.Tells)+3)
	for i := range tells {
		tells[i] = tellTo(1, 2, 3, 1, 1, "behind it")
	}
	for i, m := range r.Tells {
		tells[i] = roomyMessage(m)
	}
	r.Tells = tells[:len(r.Tells)]
	return r
}

// wholeReplica has what stands in the room behind its lists, too, in new memory.
func wholeReplica(r impl.Replica) impl.Replica {
	r.Log, r.Oks, r.Changes, r.Tells = r.Log[:cap(r.Log)], r.Oks[:cap(r.Oks)], r.Changes[:cap(r.Changes)], slices.Clone(r.Tells[:cap(r.Tells)])
	for i, m := range r.Tells {
		r.Tells[i].Log = m.Log[:cap(m.Log)]
	}
	return deepReplica(r)
}

func TestReplicasStayAndAnswersAreNewMemory(t *testing.T) {
	source := rand.New(rand.NewSource(53))
	given := rightReplicas()
	for range 1500 {
		given = append(given, drawnReplica(source))
	}
	for number, one := range given {
		drawn, text := drawnMessage(source, one), strings.Clone("key h/a")
		if number%10 == 0 {
			one.Commit = 61
		}
		r, m := roomyReplica(one), roomyMessage(drawn)
		wasReplica, wasMessage := wholeReplica(r), deepMessage(impl.Message{Log: m.Log[:cap(m.Log)]})
		taken := memoryOf(r, []impl.Message{m})
		taken.logs = append(taken.logs, []string{text})
		acts := []func() (impl.Replica, []impl.Message){
			func() (impl.Replica, []impl.Message) { return impl.Replica{}, impl.Spread(r) },
			func() (impl.Replica, []impl.Message) { return impl.Suspect(r) },
			func() (impl.Replica, []impl.Message) { return impl.Receive(r, m) },
			func() (impl.Replica, []impl.Message) { return impl.Stop(r), nil },
			func() (impl.Replica, []impl.Message) { next, list, _ := impl.Submit(r, text); return next, list },
			func() (impl.Replica, []impl.Message) { next, _ := impl.NewReplica(r.Id, r.Peers); return next, nil },
		}
		for _, act := range acts {
			impl.ReplicaOk(r)
			next, list := act()
			again, listAgain := act()
			first, second := memoryOf(next, list), memoryOf(again, listAgain)
			checkApart(t, first, taken, false)
			checkApart(t, first, second, false)
			checkApart(t, first, first, true)
			wanted, told := deepReplica(again), slices.Clone(listAgain)
			for i := range told {
				told[i] = deepMessage(told[i])
			}
			first.writeOver()
			if !sameReplica(again, wanted) || !sameMessages(listAgain, told) {
				t.Fatalf("an answer became %s, %s", shown(again), shown(listAgain))
			}
			if !sameReplica(wholeReplica(r), wasReplica) || !slices.Equal(m.Log[:cap(m.Log)], wasMessage.Log) {
				t.Fatalf("%s became %s, or %s %s", shown(wasReplica), shown(r), shown(wasMessage), shown(m))
			}
		}
	}
}

// Each function answers, whatever it is given.
func TestReplicaFunctionsAnswerAtEveryArgument(t *testing.T) {
	far := []int64{least, least + 1, -10001, -1, 0, 1, 2, 3, 4, 5, 6, 60, 61, 9999, 10000, 10001, 1 << 32, 1<<32 + 1, greatest - 1, greatest}
	lists := [][]int64{nil, {}, {0}, {1, 0, 1}, {0, 1, 2}, {least, greatest}, make([]int64, 1000)}
	for _, right := range rightReplicas() {
		for _, a := range far {
			for field := range 5 {
				r := right
				*[]*int64{&r.Id, &r.Peers, &r.View, &r.Last, &r.Commit}[field] = a
				checkActsAsTold(t, r, "all")
				for kind := int64(1); kind <= 4; kind++ {
					checkReceivedAsTold(t, r, impl.Message{Kind: kind, From: (right.Id + 1) % 3, To: right.Id, View: right.View})
				}
			}
			for _, b := range far {
				for kind := int64(0); kind <= 5; kind++ {
					for _, m := range []impl.Message{{Kind: kind, From: a, To: b}, {Kind: kind, From: a, To: right.Id, View: b, Last: b}, {Kind: kind, From: (right.Id + 1) % 3, To: right.Id, View: a, Last: b, Commit: b}, {Kind: kind, From: 1, To: right.Id, View: a, Log: right.Log, Commit: b}} {
						checkReceivedAsTold(t, right, m)
					}
				}
				r := right
				r.Id, r.Peers = a, b
				checkActsAsTold(t, r, "all")
				r = right
				r.View, r.Last = a, b
				checkActsAsTold(t, r, "all")
			}
			for _, kind := range far {
				checkReceivedAsTold(t, right, impl.Message{Kind: kind, From: a, To: right.Id, View: right.View})
			}
		}
		for _, list := range lists {
			for _, other := range lists {
				r := right
				r.Oks, r.Changes = list, other
				checkActsAsTold(t, r, "all")
				checkReceivedAsTold(t, r, changeTo(1, r.Id, r.View+1))
			}
		}
		for _, text := range append(append(slices.Clone(oddTexts), hugeTexts()...), "", "key \xff") {
			r := right
			r.Log = []string{text}
			checkActsAsTold(t, r, text)
			checkReceivedAsTold(t, right, logTo((right.View+1)%right.Peers, right.Id, right.View+1, 0, text))
		}
	}
	checkActsAsTold(t, impl.Replica{}, "all")
	checkReceivedAsTold(t, impl.Replica{}, impl.Message{})
}
