package tests

import (
	"fmt"
	"math/big"
	"math/rand"
	"slices"
	"strconv"
	"strings"
	"testing"

	"loop.example/g00207/impl"
)

// getting is a right Request of GET, its Fields by names and values in turn.
func getting(target string, texts ...string) impl.Request {
	return impl.Request{Method: "GET", Target: target, Fields: fieldsOf(texts...)}
}

// heldAt is a right Object that was asked for and came at one moment, the Response's Fields by names and values in turn.
func heldAt(key string, got int64, texts ...string) impl.Object {
	return impl.Object{Key: key, Response: answerOf(texts...), Asked: got, Got: got}
}

// variedAt is one with a vary, and with the Fields that it was asked with.
func variedAt(key string, got int64, vary string, asks ...string) impl.Object {
	o := heldAt(key, got, "cache-control", "max-age=100", "vary", vary)
	o.Fields = fieldsOf(asks...)
	return o
}

// bodied tells one that has a Body of its own.
func bodied(o impl.Object, body string) impl.Object {
	o.Response.Body = body
	return o
}

// edgeAt knows nothing of a log, and has a lease till Now.
func edgeAt(now int64, list ...impl.Object) impl.Edge {
	e := impl.Edge{Objects: list, Now: now, Until: now, Sketch: sketchOf(256)}
	for _, o := range list {
		e.Sketch = plainMarked(e.Sketch, o.Key)
	}
	return e
}

// knowing is the edge with this log.
func knowing(e impl.Edge, log ...string) impl.Edge {
	e.Log = log
	return e
}

// numbered are so many Objects, all of Keys of their own.
func numbered(count int, got int64) []impl.Object {
	list := make([]impl.Object, count)
	for i := range list {
		list[i] = bodied(heldAt(fmt.Sprint("h/", i), got, "cache-control", "max-age=100"), fmt.Sprint("b", i))
	}
	return list
}

func sameEdge(a, b impl.Edge) bool {
	return sameObjects(a.Objects, b.Objects) && slices.Equal(a.Log, b.Log) && a.Now == b.Now && a.Until == b.Until && sameSketch(a.Sketch, b.Sketch)
}

// plainName is the Key and the selecting; plainEdgeOk and its kin tell the functions of the chapter once more.
func plainName(o impl.Object) [2]string {
	vary, _ := plainGet(o.Response.Fields, "vary")
	selecting, _ := plainSelecting(vary, o.Fields)
	return [2]string{o.Key, selecting}
}

func plainEdgeOk(e impl.Edge) bool {
	if !isMoment(e.Now) || !isMoment(e.Until) || !plainLogOk(e.Log) || !plainSketchOk(e.Sketch) || e.Sketch.Size != 256 || len(e.Objects) >= 31 {
		return false
	}
	names := [][2]string{}
	for _, o := range e.Objects {
		name := plainName(o)
		if !plainObjectOk(o) || o.Got >= e.Now+1 || !plainPerhaps(e.Sketch, o.Key) || slices.Contains(names, name) {
			return false
		}
		names = append(names, name)
	}
	return true
}

func plainNewEdge(now int64) (impl.Edge, bool) {
	if !isMoment(now) {
		return impl.Edge{}, false
	}
	return impl.Edge{Now: now, Sketch: sketchOf(256)}, true
}

// plainLease reckons with numbers that have no greatest one.
func plainLease(now, until, drift int64) int64 {
	parts := new(big.Int).Mul(big.NewInt(until-now), big.NewInt(1000000-drift))
	return now + new(big.Int).Div(parts, big.NewInt(1000000)).Int64()
}

func plainRenew(e impl.Edge, until, drift int64) impl.Edge {
	if !plainEdgeOk(e) {
		return impl.Edge{}
	}
	if isMoment(until) && until >= e.Now && drift >= 0 && drift <= 100000 {
		e.Until = max(e.Until, plainLease(e.Now, until, drift))
	}
	return e
}

func plainElapse(e impl.Edge, seconds int64) (impl.Edge, bool) {
	if !plainEdgeOk(e) || seconds < 0 || seconds > 253402300799-e.Now {
		return impl.Edge{}, false
	}
	e.Now += seconds
	return e, true
}

func plainAsked(host string, r impl.Request) (string, bool) {
	key, is := impl.Key(host, r.Target)
	return key, is && impl.RequestOk(r) && isSolid.MatchString(key)
}

func plainServe(e impl.Edge, host string, r impl.Request) (int64, impl.Response) {
	key, is := plainAsked(host, r)
	if !is || !plainEdgeOk(e) {
		return 400, impl.Response{}
	}
	list := plainKept(e.Log, e.Objects)
	at := plainChosen(list, key, r.Fields)
	if at < 0 || r.Method != "GET" || e.Now > e.Until || !plainPerhaps(e.Sketch, key) {
		return 1, impl.Response{}
	}
	a := list[at].Response
	switch plainDecided(r.Fields, list[at], e.Now) {
	case 1:
		a.Fields = append(plainWithout(a.Fields, "age"), impl.Field{Name: "age", Value: strconv.FormatInt(plainAgeAt(list[at], e.Now), 10)})
		return 2, a
	case 2:
		return 3, a
	}
	return 1, impl.Response{}
}

func plainHopless(list []impl.Field) []impl.Field {
	told, _ := plainGet(list, "connection")
	names := slices.Clone(hopNames)
	if isPlainText.MatchString(told) {
		names = append(names, plainItems(told)...)
	}
	return plainWithout(list, names...)
}

func plainFill(e impl.Edge, host string, r impl.Request, a impl.Response, asked, epoch int64) (impl.Edge, bool) {
	if !plainEdgeOk(e) {
		return impl.Edge{}, false
	}
	key, is := plainAsked(host, r)
	if !is || !plainStorable(r.Method, r.Fields, a) || !lies(asked, 0, e.Now) || !lies(epoch, 0, int64(len(e.Log))) {
		return e, false
	}
	a.Fields = plainHopless(a.Fields)
	vary, _ := plainGet(a.Fields, "vary")
	if _, is := plainSelecting(vary, r.Fields); !is {
		return e, false
	}
	o := impl.Object{Key: key, Fields: r.Fields, Response: a, Asked: asked, Got: e.Now, Epoch: epoch}
	e.Sketch = plainMarked(e.Sketch, key)
	e.Objects = slices.Clone(e.Objects)
	for i, other := range e.Objects {
		if plainName(other) == plainName(o) {
			e.Objects[i] = o
			return e, true
		}
	}
	if len(e.Objects) == 30 {
		moments := []int64{}
		for _, other := range e.Objects {
			moments = append(moments, other.Got)
		}
		at := slices.Index(moments, slices.Min(moments))
		e.Objects = slices.Delete(e.Objects, at, at+1)
	}
	e.Objects = append(e.Objects, o)
	return e, true
}

func plainLearn(e impl.Edge, log []string) (impl.Edge, bool) {
	if !plainEdgeOk(e) {
		return impl.Edge{}, false
	}
	if !plainLogOk(log) || !plainBegins(log, e.Log) {
		return e, false
	}
	e.Log, e.Objects = log, plainKept(log, e.Objects)
	return e, true
}

func isZeroEdge(e impl.Edge) bool {
	return sameEdge(e, impl.Edge{})
}

// checkEdgeOk asks of one that is wrong what all functions answer of it.
func checkEdgeOk(t *testing.T, e impl.Edge, want bool) {
	t.Helper()
	if impl.EdgeOk(e) != want || plainEdgeOk(e) != want {
		t.Errorf("EdgeOk(%s) is %v, not %v", shown(e), impl.EdgeOk(e), want)
		return
	}
	if want {
		return
	}
	for _, until := range []int64{e.Now, e.Until, noon, -1} {
		if got := impl.Renew(e, until, 0); !isZeroEdge(got) {
			t.Errorf("Renew(%s, %d): %s", shown(e), until, shown(got))
		}
	}
	for _, seconds := range []int64{0, 1, -1} {
		if got, is := impl.Elapse(e, seconds); !isZeroEdge(got) || is {
			t.Errorf("Elapse(%s, %d): %s, %v", shown(e), seconds, shown(got), is)
		}
	}
	for _, r := range []impl.Request{getting("/a"), getting("/0"), {Method: "PUT", Target: "/a"}, {}} {
		if code, a := impl.Serve(e, "h", r); code != impl.SvBad || !isZeroResponse(a) {
			t.Errorf("Serve(%s, %s): %d, %s", shown(e), shown(r), code, shown(a))
		}
		if got, is := impl.Fill(e, "h", r, answerOf("etag", "\"e\""), 0, 0); !isZeroEdge(got) || is {
			t.Errorf("Fill(%s, %s): %s, %v", shown(e), shown(r), shown(got), is)
		}
	}
	for _, log := range [][]string{nil, e.Log, {"all"}, {"x"}} {
		if got, is := impl.Learn(e, log); !isZeroEdge(got) || is {
			t.Errorf("Learn(%s, %.200q): %s, %v", shown(e), log, shown(got), is)
		}
	}
}

func checkRenew(t *testing.T, e impl.Edge, until, drift int64, want int64) {
	t.Helper()
	wanted := e
	wanted.Until = want
	if got := impl.Renew(e, until, drift); !impl.EdgeOk(e) || !sameEdge(got, wanted) {
		t.Errorf("Renew(%s, %d, %d): %s, not till %d", shown(e), until, drift, shown(got), want)
	}
}

func checkElapse(t *testing.T, e impl.Edge, seconds int64, want int64) {
	t.Helper()
	wanted := e
	wanted.Now = want
	if got, is := impl.Elapse(e, seconds); !is || !sameEdge(got, wanted) || !impl.EdgeOk(got) {
		t.Errorf("Elapse(%s, %d): %s, %v, not at %d", shown(e), seconds, shown(got), is, want)
	}
}

func checkNotElapsed(t *testing.T, e impl.Edge, seconds int64) {
	t.Helper()
	if got, is := impl.Elapse(e, seconds); is || !isZeroEdge(got) || !impl.EdgeOk(e) {
		t.Errorf("Elapse(%s, %d): %s, %v", shown(e), seconds, shown(got), is)
	}
}

// checkNotServed wants a code with the zero Response, of a right edge.
func checkNotServed(t *testing.T, e impl.Edge, host string, r impl.Request, want int64) {
	t.Helper()
	if code, a := impl.Serve(e, host, r); code != want || !isZeroResponse(a) || !impl.EdgeOk(e) {
		t.Errorf("Serve(%s, %.80q, %s): %d, %s, not %d", shown(e), host, shown(r), code, shown(a), want)
	}
}

func checkServed(t *testing.T, e impl.Edge, host string, r impl.Request, want int64, body string, texts ...string) {
	t.Helper()
	code, a := impl.Serve(e, host, r)
	if code != want || a.Body != body || !slices.Equal(a.Fields, fieldsOf(texts...)) || !impl.EdgeOk(e) {
		t.Errorf("Serve(%s, %.80q, %s): %d, %s, not %d, %q with %.200q", shown(e), host, shown(r), code, shown(a), want, body, texts)
	}
}

// filling is what a Fill is asked with, beside the edge.
type filling struct {
	host   string
	r      impl.Request
	a      impl.Response
	asked  int64
	epoch  int64
	filled func(e impl.Edge) impl.Edge
}

func (f filling) fill(e impl.Edge) (impl.Edge, bool) {
	return impl.Fill(e, f.host, f.r, f.a, f.asked, f.epoch)
}

// fillingAt is an ordinary one, of h/a, as it may be changed by others.
func fillingAt(moment int64) filling {
	return filling{host: "h", r: getting("/a"), a: answerOf("cache-control", "max-age=10"), asked: moment}
}

func (f filling) to(target string, texts ...string) filling {
	f.r = getting(target, texts...)
	return f
}

func (f filling) with(texts ...string) filling {
	f.a = answerOf(texts...)
	return f
}

// checkFill wants the Objects that are told, and the Key of the last one told Marked, be it last there or not.
func checkFill(t *testing.T, e impl.Edge, f filling, key string, list ...impl.Object) {
	t.Helper()
	wanted := e
	wanted.Objects, wanted.Sketch = list, plainMarked(e.Sketch, key)
	if got, is := f.fill(e); !is || !sameEdge(got, wanted) || !impl.EdgeOk(got) || !impl.EdgeOk(e) {
		t.Errorf("Fill(%s, %s): %v,\n%s, not\n%s", shown(e), shown(f), is, shown(got), shown(wanted))
	}
}

func checkNotFilled(t *testing.T, e impl.Edge, f filling) {
	t.Helper()
	if got, is := f.fill(e); is || !sameEdge(got, e) || !impl.EdgeOk(e) {
		t.Errorf("Fill(%s, %s): %v, %s", shown(e), shown(f), is, shown(got))
	}
}

func checkLearn(t *testing.T, e impl.Edge, log []string, list ...impl.Object) {
	t.Helper()
	wanted := e
	wanted.Log, wanted.Objects = log, list
	if got, is := impl.Learn(e, log); !is || !sameEdge(got, wanted) || !impl.EdgeOk(got) || !impl.EdgeOk(e) {
		t.Errorf("Learn(%s, %.200q): %v, %s", shown(e), log, is, shown(got))
	}
}

func checkNotLearned(t *testing.T, e impl.Edge, log []string) {
	t.Helper()
	if got, is := impl.Learn(e, log); is || !sameEdge(got, e) || !impl.EdgeOk(e) {
		t.Errorf("Learn(%s, %.200q): %v, %s", shown(e), log, is, shown(got))
	}
}

func TestEdgeConstants(t *testing.T) {
	if impl.MaxObjects != 30 || impl.SvMiss != 1 || impl.SvFresh != 2 || impl.SvCheck != 3 || impl.SvBad != 400 {
		t.Fatal(impl.MaxObjects, impl.SvMiss, impl.SvFresh, impl.SvCheck, impl.SvBad)
	}
}

func TestEdgesByTheNumberOfObjects(t *testing.T) {
	for count := range 40 {
		checkEdgeOk(t, edgeAt(noon, numbered(count, noon)...), count <= 30)
		one := make([]impl.Object, count)
		for i := range one {
			one[i] = variedAt("h/a", noon, "a", "a", fmt.Sprint(i))
		}
		checkEdgeOk(t, edgeAt(noon, one...), count <= 30)
	}
	checkEdgeOk(t, impl.Edge{Now: noon, Sketch: fullSketch(256), Objects: numbered(5000, noon)}, false)
	checkEdgeOk(t, impl.Edge{Now: noon, Sketch: fullSketch(256), Objects: make([]impl.Object, 100000)}, false)
	checkEdgeOk(t, impl.Edge{}, false)
	// An empty list and nil are the same value.
	checkEdgeOk(t, impl.Edge{Sketch: impl.Sketch{Size: 256}}, true)
	checkEdgeOk(t, impl.Edge{Objects: []impl.Object{}, Log: []string{}, Sketch: impl.Sketch{Size: 256, Bits: []int64{}}}, true)
}

func TestEdgesWithAWrongObject(t *testing.T) {
	right := numbered(2, noon)
	for _, wrong := range wrongObjects() {
		for at := range 3 {
			e := edgeAt(lastMoment, slices.Insert(slices.Clone(right), at, wrong)...)
			checkEdgeOk(t, e, false)
			e.Sketch = fullSketch(256)
			checkEdgeOk(t, e, false)
			checkEdgeOk(t, edgeAt(lastMoment, slices.Insert(slices.Clone(right), at, heldAt("h/right", noon))...), true)
		}
	}
	// What is Barred, over, or never to be kept may be there all the same.
	stale := heldAt("h/a", noon, "cache-control", "no-store, private, max-age=0")
	stale.Response.Status, stale.Epoch = 500, 100000
	checkEdgeOk(t, knowing(edgeAt(lastMoment, stale), "all"), true)
	checkEdgeOk(t, edgeAt(noon, heldAt("", noon), heldAt("*", noon), heldAt(strings.Repeat("k", 500), noon)), true)
}

func TestEdgesOfOneKeyAndOneSelecting(t *testing.T) {
	plain := func(asks ...string) impl.Object {
		o := heldAt("h/a", noon, "etag", "\"e\"")
		o.Fields = fieldsOf(asks...)
		return o
	}
	one := variedAt("h/a", noon, "a", "a", "1")
	for _, pair := range []struct {
		a, b impl.Object
		want bool
	}{
		{plain(), plain(), false},
		{plain("a", "1"), plain("a", "2"), false},
		{plain(), bodied(heldAt("h/a", noon-5, "date", dateText(0)), "other"), false},
		{plain(), heldAt("h/b", noon), true},
		{plain(), heldAt("H/a", noon), true},
		{one, one, false},
		{one, variedAt("h/a", noon-7, "a", "a", "2"), true},
		{one, variedAt("h/b", noon, "a", "a", "1"), true},
		{one, variedAt("h/a", noon, "A", "A", "1", "b", "7"), false},
		{one, variedAt("h/a", noon, "a,A", "a", "1"), false},
		{one, variedAt("h/a", noon, "a", "a", "1", "a", "1"), true},
		{one, variedAt("h/a", noon, "a"), true},
		{one, variedAt("h/a", noon, "a,b", "a", "1"), true},
		{one, plain("a", "1"), true},
		{variedAt("h/a", noon, "a,b", "a", "1", "b", "2"), variedAt("h/a", noon, "b , a", "b", "2", "a", "1"), false},
		{variedAt("h/a", noon, "a,b", "a", "1", "b", "2"), variedAt("h/a", noon, "a,b", "a", "2", "b", "1"), true},
		{variedAt("h/a", noon, "a"), variedAt("h/a", noon, "a", "a", ""), false},
		{variedAt("h/a", noon, "a"), plain(), true},
		{variedAt("h/a", noon, ","), plain(), false},
		// Where Selecting says false, the selecting is empty.
		{variedAt("h/a", noon, "*"), plain(), false},
		{variedAt("h/a", noon, "*"), variedAt("h/a", noon, "*", "a", "1"), false},
		{variedAt("h/a", noon, "a, *", "a", "1"), variedAt("h/a", noon, "b c"), false},
		{variedAt("h/a", noon, "a, *", "a", "1"), one, true},
		{variedAt("h/a", noon, "\"a\""), plain("a", "1"), false},
		{variedAt("h/a", noon, "*"), variedAt("h/b", noon, "*"), true},
	} {
		other := heldAt("h/other", noon)
		checkEdgeOk(t, edgeAt(noon, pair.a, pair.b), pair.want)
		checkEdgeOk(t, edgeAt(noon, pair.b, pair.a), pair.want)
		checkEdgeOk(t, edgeAt(noon, pair.b, other, pair.a), pair.want)
		checkEdgeOk(t, edgeAt(noon, append(append([]impl.Object{pair.b}, numbered(28, noon)...), pair.a)...), pair.want)
	}
}

func TestEdgesByLog(t *testing.T) {
	e := edgeAt(noon, numbered(2, noon)...)
	for count := range 70 {
		checkEdgeOk(t, knowing(e, quietLog(count)...), count <= 60)
		checkEdgeOk(t, knowing(e, slices.Repeat([]string{"all"}, count)...), count <= 60)
	}
	for _, text := range append([]string{"", "x", "all ", "key", "key ", "key a b", "tag " + strings.Repeat("t", 201), "Key a"}, oddTexts...) {
		checkEdgeOk(t, knowing(e, text), false)
		for _, at := range []int{0, 30, 59} {
			log := quietLog(60)
			log[at] = text
			checkEdgeOk(t, knowing(e, log...), false)
		}
	}
}

func TestEdgesByNowAndUntil(t *testing.T) {
	for _, got := range []int64{0, 1, noon, lastMoment - 1, lastMoment} {
		e := edgeAt(got, heldAt("h/a", 0), heldAt("h/b", got), heldAt("h/c", got/2))
		for _, now := range []int64{got - 1, got, got + 1, got + noon, got - noon, 0, lastMoment, lastMoment + 1} {
			e.Now, e.Until = now, 0
			checkEdgeOk(t, e, now >= got && now <= lastMoment)
			alone := impl.Edge{Now: now, Sketch: e.Sketch}
			checkEdgeOk(t, alone, now >= 0 && now <= lastMoment)
			e.Now, e.Until = got, now
			checkEdgeOk(t, e, now >= 0 && now <= lastMoment)
		}
	}
	for _, far := range append([]int64{lastMoment + 1, lastMoment + 2, -noon, -lastMoment}, farNumbers...) {
		is := isMoment(far)
		checkEdgeOk(t, impl.Edge{Now: far, Sketch: sketchOf(256)}, is)
		checkEdgeOk(t, impl.Edge{Until: far, Sketch: sketchOf(256)}, is)
		checkEdgeOk(t, impl.Edge{Until: far, Now: noon, Sketch: sketchOf(256), Log: quietLog(3)}, is)
	}
}

func TestEdgesBySketch(t *testing.T) {
	key := "h/a"
	for _, list := range [][]impl.Object{nil, {heldAt(key, noon)}} {
		e := edgeAt(noon, list...)
		for _, size := range append(outsideSizes(), 8, 9, 64, 128, 254, 255, 257, 258, 511, 512, 256+1<<32) {
			e.Sketch = sketchOf(size)
			checkEdgeOk(t, e, false)
			e.Sketch.Bits = plainMarks(256, key)
			checkEdgeOk(t, e, false)
			if isSketchSize(size) {
				e.Sketch = fullSketch(size)
				checkEdgeOk(t, e, false)
			}
		}
		for _, wrong := range wrongSketches() {
			e.Sketch = wrong
			checkEdgeOk(t, e, false)
		}
		e.Sketch = fullSketch(256)
		checkEdgeOk(t, e, true)
		for _, wrong := range []int64{-1, 256, 257, 512, 0, 7, least, greatest} {
			for _, at := range []int{5, 100, 255} {
				e.Sketch = fullSketch(256)
				e.Sketch.Bits[at] = wrong
				checkEdgeOk(t, e, false)
			}
		}
	}
	marks := plainMarks(256, key)
	for number := range int64(256) {
		e := edgeAt(noon, heldAt("h/b", noon), heldAt(key, noon))
		e.Sketch.Bits = lackingAll(fullSketch(256).Bits, numbers(number))
		checkEdgeOk(t, e, !slices.Contains(append(plainMarks(256, "h/b"), marks...), number))
		e = edgeAt(noon, heldAt(key, noon))
		e.Sketch.Bits = plainUnion(256, marks, numbers(number)).Bits
		checkEdgeOk(t, e, true)
	}
	checkEdgeOk(t, impl.Edge{Now: noon, Objects: []impl.Object{heldAt(key, noon)}, Sketch: sketchOf(256)}, false)
}

func checkNewEdge(t *testing.T, now int64) {
	t.Helper()
	got, is := impl.NewEdge(now)
	want, too := plainNewEdge(now)
	if is != too || !sameEdge(got, want) || impl.EdgeOk(got) != is {
		t.Errorf("NewEdge(%d): %s, %v", now, shown(got), is)
	}
}

func TestNewEdge(t *testing.T) {
	for _, now := range append([]int64{0, 1, 2, 1000, noon, lastMoment - 1, lastMoment, lastMoment + 1, lastMoment + 2, -noon, -lastMoment}, farNumbers...) {
		checkNewEdge(t, now)
	}
	e, is := impl.NewEdge(1000)
	if !is || e.Now != 1000 || e.Until != 0 || e.Sketch.Size != 256 || len(e.Sketch.Bits)+len(e.Objects)+len(e.Log) > 0 {
		t.Errorf("%s, %v", shown(e), is)
	}
}

func TestRenew(t *testing.T) {
	for _, one := range []struct{ now, was, until, drift, want int64 }{
		// Less than Now, Now, and later.
		{1000, 0, 999, 0, 0}, {1000, 0, 1000, 0, 1000}, {1000, 0, 1001, 0, 1001}, {1000, 0, 2000, 0, 2000}, {1000, 0, 0, 0, 0},
		{1000, 400, 500, 0, 400}, {1000, 400, 999, 0, 400}, {1000, 400, 1000, 100000, 1000}, {1000, 999, 1000, 0, 1000},
		// Sooner than the lease, and later.
		{1000, 1500, 1200, 0, 1500}, {1000, 1500, 1499, 0, 1500}, {1000, 1500, 1500, 0, 1500}, {1000, 1500, 1501, 0, 1501}, {1000, 1500, 1000, 0, 1500},
		{1000, 1500, 1501, 100000, 1500}, {1000, 1500, 1555, 100000, 1500}, {1000, 1500, 1556, 100000, 1500}, {1000, 1500, 1557, 100000, 1501}, {1000, 1500, 1600, 100000, 1540},
		// Drifts, and those that are out of range.
		{1000, 0, 2000, 100000, 1900}, {1000, 0, 2000, 1, 1999}, {1000, 0, 2000, 1000, 1999}, {1000, 0, 2000, 1001, 1998}, {1000, 0, 2000, 50000, 1950}, {1000, 0, 2000, 99999, 1900},
		{1000, 0, 2000, -1, 0}, {1000, 0, 2000, 100001, 0}, {1000, 7, 2000, 1000000, 7}, {1000, 1200, 2000, -1, 1200}, {1000, 1200, 2000, 100001, 1200}, {1000, 0, 2000, least, 0}, {1000, 0, 2000, greatest, 0}, {1000, 0, 1000, 100001, 0},
		// A rest.
		{1000, 0, 1101, 100000, 1090}, {1000, 0, 1109, 100000, 1098}, {1000, 0, 1110, 100000, 1099}, {1000, 0, 1009, 100000, 1008}, {1000, 0, 1001, 100000, 1000}, {1000, 0, 1001, 1, 1000}, {1000, 0, 1002, 1, 1001}, {0, 0, 1, 1, 0}, {0, 0, 11, 100000, 9}, {1, 0, 12, 100000, 10},
		{0, 0, 1000000, 1, 999999}, {0, 0, 1000001, 1, 999999}, {0, 0, 1999999, 1, 1999997}, {7, 0, 1000007, 3, 1000004},
		// The ends.
		{1000, 0, lastMoment, 0, lastMoment}, {1000, 0, lastMoment + 1, 0, 0}, {1000, 0, greatest, 0, 0}, {1000, 0, -1, 0, 0}, {1000, 0, least, 0, 0}, {1000, 1700, least, 0, 1700},
		{0, 0, lastMoment, 1, 253402047396}, {0, 0, lastMoment, 100000, 228062070719}, {0, 5, 0, 0, 5}, {lastMoment, 0, lastMoment, 100000, lastMoment}, {lastMoment, 0, lastMoment - 1, 0, 0}, {lastMoment - 1, 0, lastMoment, 0, lastMoment}, {lastMoment - 1, 0, lastMoment, 1, lastMoment - 1}, {0, lastMoment, lastMoment, 0, lastMoment}, {0, lastMoment, 5, 0, lastMoment},
	} {
		e := impl.Edge{Now: one.now, Until: one.was, Sketch: sketchOf(256, 3)}
		checkRenew(t, e, one.until, one.drift, one.want)
		e = edgeAt(one.now, heldAt("h/a", one.now), heldAt("h/b", one.now/2))
		e.Until, e.Log = one.was, []string{"all", "key h/a"}
		checkRenew(t, e, one.until, one.drift, one.want)
	}
}

func TestRenewOfManyMoments(t *testing.T) {
	source := rand.New(rand.NewSource(58))
	for range 20000 {
		span := []int64{10, 1000, 3000000, lastMoment / 2}[source.Intn(4)]
		now := source.Int63n(lastMoment/2 + 1)
		until := now + source.Int63n(span+1)
		drift := []int64{0, 1, 99999, 100000, source.Int63n(100001), source.Int63n(100001)}[source.Intn(6)]
		e := impl.Edge{Now: now, Until: now + source.Int63n(span+1), Sketch: sketchOf(256)}
		lease := plainLease(now, until, drift)
		checkRenew(t, e, until, drift, max(e.Until, lease))
		// It never is later than what was told, and not by more than the drift and a rest sooner.
		if lease > until || lease < now || float64(until-lease) > float64(until-now)*float64(drift)/1000000+1 {
			t.Fatalf("from %d till %d with %d: %d", now, until, drift, lease)
		}
	}
}

func TestElapse(t *testing.T) {
	for _, now := range []int64{0, 1, 1000, noon, lastMoment - 1, lastMoment} {
		for _, e := range []impl.Edge{{Now: now, Sketch: sketchOf(256)}, knowing(edgeAt(now, heldAt("h/a", now), heldAt("h/b", 0)), "all")} {
			left := lastMoment - now
			for _, seconds := range []int64{0, 1, 2, 999, left - 1, left, left + 1, left + 2, lastMoment, greatest - now, greatest - now + 1, greatest - 1, greatest} {
				if seconds >= 0 && seconds <= left {
					checkElapse(t, e, seconds, now+seconds)
				} else {
					checkNotElapsed(t, e, seconds)
				}
			}
			// Time does not go back, not even to a moment at which all was there.
			for _, seconds := range []int64{-1, -2, -now, -noon, least, least + 1, least + now, least + now + 1} {
				if seconds < 0 {
					checkNotElapsed(t, e, seconds)
				}
			}
		}
	}
	for _, far := range farNumbers {
		e := edgeAt(0)
		if isMoment(far) {
			checkElapse(t, e, far, far)
		} else {
			checkNotElapsed(t, e, far)
		}
	}
}

// freshEdge serves h/a, and h/b by its Tag alone.
func freshEdge() impl.Edge {
	return edgeAt(noon, bodied(heldAt("h/a", noon-3, "cache-control", "max-age=10", "x", "1"), "body of a"), bodied(heldAt("h/b", noon-3, "etag", "\"e\"", "Age", "4"), "body of b"))
}

func TestServeOfWrongAsks(t *testing.T) {
	e := freshEdge()
	checkServed(t, e, "h", getting("/a"), impl.SvFresh, "body of a", "cache-control", "max-age=10", "x", "1", "age", "3")
	for _, r := range wrongRequests() {
		checkNotServed(t, e, "h", r, impl.SvBad)
		r.Method = "GET"
		if !impl.RequestOk(r) {
			checkNotServed(t, e, "h", r, impl.SvBad)
		}
	}
	for _, host := range append(wrongNames(), "h/", "/h", "h ", " h", "h,", "h:1", "ho st", strings.Repeat("h", 65)) {
		checkNotServed(t, e, host, getting("/a"), impl.SvBad)
		checkNotServed(t, e, host, impl.Request{Method: "PUT", Target: "/a"}, impl.SvBad)
	}
	for _, target := range []string{"*", "a", "h/a", "http://h/a", "?", "?x", "%2fa", "/%", "/%4", "/%4g", "/a%zz", "/%?a", "/" + strings.Repeat("\"", 67), "/" + strings.Repeat("%22", 66) + "\"", "//%2"} {
		for _, method := range []string{"GET", "PUT"} {
			checkNotServed(t, e, "h", impl.Request{Method: method, Target: target}, impl.SvBad)
		}
		// What is bad is bad at an edge that has nothing and no lease, too.
		checkNotServed(t, impl.Edge{Now: noon, Sketch: sketchOf(256)}, "h", getting(target), impl.SvBad)
	}
	for _, target := range []string{"/b?%", "//", "/%00", "/%ff", "/?&&", "/" + strings.Repeat("\"", 66), "/" + strings.Repeat("a", 199), "/?" + strings.Repeat("%", 198)} {
		checkNotServed(t, e, "h", getting(target), impl.SvMiss)
	}
}

// A Key of as many bytes as those of a right Request may have, and more than that.
func TestServeOfLongKeys(t *testing.T) {
	host, target := strings.Repeat("H", 64), "/"+strings.Repeat("\"", 66)+"?"+strings.Repeat("q", 132)
	key := strings.Repeat("h", 64) + "/" + strings.Repeat("%22", 66) + "?" + strings.Repeat("q", 132)
	e := edgeAt(noon, heldAt(key, noon, "cache-control", "max-age=10"))
	checkServed(t, e, host, getting(target), impl.SvFresh, "b", "cache-control", "max-age=10", "age", "0")
	checkNotServed(t, e, host+"H", getting(target), impl.SvBad)
	checkNotServed(t, e, host, getting(target+"q"), impl.SvBad)
	checkNotServed(t, edgeAt(noon, heldAt(strings.Repeat("k", 500), noon, "etag", "\"e\"")), strings.Repeat("k", 500), getting("/"), impl.SvBad)
}

func TestServeWhereItMisses(t *testing.T) {
	e := freshEdge()
	for _, method := range []string{"PUT", "HEAD", "POST", "G", "GE", "GETT", "TEG"} {
		checkNotServed(t, e, "h", impl.Request{Method: method, Target: "/a"}, impl.SvMiss)
	}
	for _, until := range []int64{0, 1, noon - 3, noon - 1} {
		over := e
		over.Until = until
		checkNotServed(t, over, "h", getting("/a"), impl.SvMiss)
		checkNotServed(t, over, "h", getting("/b"), impl.SvMiss)
	}
	for _, target := range []string{"/", "/c", "/A", "/a/", "/aa", "/a?x", "/a;", "/b/../c", "/a%00"} {
		checkNotServed(t, e, "h", getting(target), impl.SvMiss)
		full := e
		full.Sketch = fullSketch(256)
		checkNotServed(t, full, "h", getting(target), impl.SvMiss)
	}
	for _, host := range []string{"g", "hh", "h.", "~"} {
		checkNotServed(t, e, host, getting("/a"), impl.SvMiss)
	}
	// Its own log bars it.
	for _, text := range []string{"all", "key h/a", "begin h/", "tag t"} {
		tagged := edgeAt(noon, heldAt("h/a", noon, "cache-control", "max-age=10", "surrogate-key", "t"))
		checkNotServed(t, knowing(tagged, text), "h", getting("/a"), impl.SvMiss)
		checkNotServed(t, knowing(tagged, "key x", text, "key y"), "h", getting("/a"), impl.SvMiss)
		tagged.Objects[0].Epoch = 1
		checkServed(t, knowing(tagged, text), "h", getting("/a"), impl.SvFresh, "b", "cache-control", "max-age=10", "surrogate-key", "t", "age", "0")
		checkNotServed(t, knowing(tagged, text, text), "h", getting("/a"), impl.SvMiss)
	}
	// It is neither fresh nor tagged.
	for _, texts := range [][]string{nil, {"cache-control", "max-age=3"}, {"cache-control", "max-age=0"}, {"cache-control", "max-age=10, no-cache"}, {"etag", "e"}, {"cache-control", "max-age=10", "age", "7"}} {
		checkNotServed(t, edgeAt(noon, heldAt("h/a", noon-3, texts...)), "h", getting("/a"), impl.SvMiss)
	}
	for _, control := range []string{"no-cache", "no-store", "max-age=2", "max-age=0", "max-stale, no-cache"} {
		checkNotServed(t, e, "h", getting("/a", "cache-control", control), impl.SvMiss)
	}
	checkNotServed(t, edgeAt(noon), "h", getting("/a"), impl.SvMiss)
}

func TestServeWhatIsFresh(t *testing.T) {
	e := freshEdge()
	fields := []string{"cache-control", "max-age=10", "x", "1", "age"}
	for _, target := range []string{"/a", "/./a", "/%61", "/x/../a", "/a?", "/a?&&", "/x/%2e%2E/a"} {
		for _, host := range []string{"h", "H"} {
			checkServed(t, e, host, getting(target), impl.SvFresh, "body of a", append(fields, "3")...)
			checkServed(t, e, host, getting(target, "other", "x"), impl.SvFresh, "body of a", append(fields, "3")...)
			checkServed(t, e, host, impl.Request{Method: "GET", Target: target, Body: "xy"}, impl.SvFresh, "body of a", append(fields, "3")...)
		}
	}
	for later := range int64(12) {
		old := e
		old.Now, old.Until = noon+later, noon+later
		age := strconv.FormatInt(3+later, 10)
		if later < 7 {
			checkServed(t, old, "h", getting("/a"), impl.SvFresh, "body of a", append(fields, age)...)
		} else {
			checkNotServed(t, old, "h", getting("/a"), impl.SvMiss)
		}
		// As stale as it is asked for.
		asks := getting("/a", "cache-control", "max-stale=2")
		if later < 10 {
			checkServed(t, old, "h", asks, impl.SvFresh, "body of a", append(fields, age)...)
		} else {
			checkNotServed(t, old, "h", asks, impl.SvMiss)
		}
		checkServed(t, old, "h", getting("/a", "cache-control", "max-stale"), impl.SvFresh, "body of a", append(fields, age)...)
	}
}

func TestServeAtTheEndOfTheLease(t *testing.T) {
	for _, now := range []int64{1, 1000, noon, lastMoment} {
		e := edgeAt(now, heldAt("h/a", now, "cache-control", "max-age=10"))
		for _, until := range []int64{now, now + 1, lastMoment} {
			e.Until = min(until, lastMoment)
			checkServed(t, e, "h", getting("/a"), impl.SvFresh, "b", "cache-control", "max-age=10", "age", "0")
		}
		for _, until := range []int64{now - 1, 0} {
			e.Until = until
			checkNotServed(t, e, "h", getting("/a"), impl.SvMiss)
			checkNotServed(t, e, "h", getting("/a", "cache-control", "max-stale"), impl.SvMiss)
		}
	}
	// With the hours that go by.
	e := impl.Renew(edgeAt(1000, heldAt("h/a", 1000, "cache-control", "max-age=1000")), 1100, 100000)
	for seconds := range int64(100) {
		later, _ := impl.Elapse(e, seconds)
		code, _ := impl.Serve(later, "h", getting("/a"))
		if want := []int64{impl.SvFresh, impl.SvMiss}[max(seconds-90, 0)/max(seconds-90, 1)]; code != want {
			t.Errorf("Serve %d seconds later: %d, not %d", seconds, code, want)
		}
	}
}

func TestServeWithAnAge(t *testing.T) {
	for _, one := range []struct {
		given []string
		want  []string
	}{
		{[]string{"age", "4", "x", "1"}, []string{"x", "1", "age", "7"}},
		{[]string{"Age", "4", "x", "1"}, []string{"x", "1", "age", "7"}},
		{[]string{"x", "1", "AGE", "004"}, []string{"x", "1", "age", "7"}},
		{[]string{"age", "", "x", "1"}, []string{"x", "1", "age", "3"}},
		{[]string{"age", "x"}, []string{"age", "3"}},
		// Of two, Get tells what are no Digits.
		{[]string{"age", "4", "y", "2", "aGe", "5", "ages", "9"}, []string{"y", "2", "ages", "9", "age", "3"}},
		{[]string{"x-age", "1", "date", dateText(noon - 8)}, []string{"x-age", "1", "date", dateText(noon - 8), "age", "8"}},
		{[]string{"age", "999999999999999"}, []string{"age", "1000000000"}},
	} {
		given := append([]string{"cache-control", "max-age=100"}, one.given...)
		want := append([]string{"cache-control", "max-age=100"}, one.want...)
		stale := getting("/a", "cache-control", "max-stale")
		checkServed(t, edgeAt(noon, heldAt("h/a", noon-3, given...)), "h", stale, impl.SvFresh, "b", want...)
		// What is to be checked is told as it is kept.
		tagged := append([]string{"etag", "\"e\""}, one.given...)
		checkServed(t, edgeAt(noon, heldAt("h/a", noon-3, tagged...)), "h", getting("/a"), impl.SvCheck, "b", tagged...)
	}
	asked := heldAt("h/a", noon-3, "cache-control", "max-age=100", "age", "4")
	asked.Asked -= 5
	checkServed(t, edgeAt(noon, asked), "h", getting("/a"), impl.SvFresh, "b", "cache-control", "max-age=100", "age", "12")
}

// With as many Fields as there may be, the age still comes at the end of them.
func TestServeWithMaxFields(t *testing.T) {
	for _, count := range []int{28, 29} {
		o := heldAt("h/a", noon, "cache-control", "max-age=100")
		o.Response.Fields = append(o.Response.Fields, manyFields(count)...)
		for _, list := range [][]impl.Field{o.Response.Fields, append(slices.Clone(o.Response.Fields), impl.Field{Name: "Age", Value: "3"})} {
			if len(list) > 30 {
				continue
			}
			o.Response.Fields = list
			code, a := impl.Serve(edgeAt(noon, o), "h", getting("/a"))
			want := append(plainWithout(list, "age"), impl.Field{Name: "age", Value: strconv.FormatInt(plainAgeAt(o, noon), 10)})
			if code != impl.SvFresh || !slices.Equal(a.Fields, want) {
				t.Errorf("with %d Fields: %d, %.300q", len(list), code, a.Fields)
			}
		}
	}
}

func TestServeWhatIsToBeChecked(t *testing.T) {
	e := freshEdge()
	checkServed(t, e, "h", getting("/b"), impl.SvCheck, "body of b", "etag", "\"e\"", "Age", "4")
	checkServed(t, e, "H", getting("/%62"), impl.SvCheck, "body of b", "etag", "\"e\"", "Age", "4")
	fresh := []string{"cache-control", "max-age=10", "etag", "W/\"e\""}
	one := edgeAt(noon, heldAt("h/a", noon-3, fresh...))
	checkServed(t, one, "h", getting("/a"), impl.SvFresh, "b", append(fresh, "age", "3")...)
	for _, control := range []string{"no-cache", "no-store", "max-age=2", "max-stale, no-cache"} {
		checkServed(t, one, "h", getting("/a", "cache-control", control), impl.SvCheck, "b", fresh...)
	}
	one.Now, one.Until = noon+7, noon+7
	checkServed(t, one, "h", getting("/a"), impl.SvCheck, "b", fresh...)
	checkServed(t, one, "h", getting("/a", "cache-control", "max-stale=0"), impl.SvFresh, "b", append(fresh, "age", "10")...)
	one.Until--
	checkNotServed(t, one, "h", getting("/a"), impl.SvMiss)
	missing := heldAt("h/a", noon-3, "etag", "\"e\"")
	missing.Response = impl.Response{Status: 404, Fields: missing.Response.Fields}
	if code, a := impl.Serve(edgeAt(noon, missing), "h", getting("/a")); code != impl.SvCheck || !sameResponse(a, missing.Response) {
		t.Errorf("Serve: %d, %s", code, shown(a))
	}
}

func TestServeByVary(t *testing.T) {
	list := []impl.Object{
		bodied(variedAt("h/a", noon-5, "a", "a", "1"), "one"), bodied(variedAt("h/a", noon-4, "A", "a", "2"), "two"),
		bodied(variedAt("h/a", noon-3, "b", "b", "1"), "three"), bodied(variedAt("h/b", noon, "*"), "four"), bodied(variedAt("h/b", noon-9, "a", "a", "1"), "five"),
	}
	e := edgeAt(noon, list...)
	tell := func(age string, vary string) []string {
		return []string{"cache-control", "max-age=100", "vary", vary, "age", age}
	}
	checkServed(t, e, "h", getting("/a", "a", "1"), impl.SvFresh, "one", tell("5", "a")...)
	checkServed(t, e, "h", getting("/a", "A", "2", "c", "1"), impl.SvFresh, "two", tell("4", "A")...)
	// The latest of those that it may be.
	checkServed(t, e, "h", getting("/a", "a", "1", "b", "1"), impl.SvFresh, "three", tell("3", "b")...)
	checkNotServed(t, e, "h", getting("/a", "a", "3"), impl.SvMiss)
	checkNotServed(t, e, "h", getting("/a"), impl.SvMiss)
	checkServed(t, e, "h", getting("/b", "a", "1"), impl.SvFresh, "five", tell("9", "a")...)
	checkNotServed(t, e, "h", getting("/b"), impl.SvMiss)
	// Of alike ones the first.
	e.Objects[0].Got, e.Objects[2].Got = noon-4, noon-4
	e.Objects[0].Asked, e.Objects[2].Asked = noon-4, noon-4
	checkServed(t, e, "h", getting("/a", "a", "1", "b", "1"), impl.SvFresh, "one", tell("4", "a")...)
}

// The one that is Chosen of all is Barred, and another one is not.
func TestServeOneThatIsNotBarred(t *testing.T) {
	older, newer := bodied(variedAt("h/a", noon-5, "a", "a", "1"), "older"), bodied(variedAt("h/a", noon-1, "b", "b", "1"), "newer")
	newer.Response.Fields = append(newer.Response.Fields, fieldsOf("surrogate-key", "t")...)
	asks := getting("/a", "a", "1", "b", "1")
	for _, list := range [][]impl.Object{{older, newer}, {newer, older}, {heldAt("h/b", noon), newer, heldAt("h/c", noon), older}} {
		e := edgeAt(noon, list...)
		checkServed(t, e, "h", asks, impl.SvFresh, "newer", "cache-control", "max-age=100", "vary", "b", "surrogate-key", "t", "age", "1")
		checkServed(t, knowing(e, "tag t"), "h", asks, impl.SvFresh, "older", "cache-control", "max-age=100", "vary", "a", "age", "5")
		checkServed(t, knowing(e, "key x", "tag t", "key y"), "h", asks, impl.SvFresh, "older", "cache-control", "max-age=100", "vary", "a", "age", "5")
		checkNotServed(t, knowing(e, "tag t", "all"), "h", asks, impl.SvMiss)
		checkNotServed(t, knowing(e, "tag t"), "h", getting("/a", "b", "1"), impl.SvMiss)
	}
	// By epochs: the later one was fetched ahead of the purge, the earlier one behind it.
	older.Epoch = 2
	e := knowing(edgeAt(noon, newer, older), "key x", "key h/a")
	checkServed(t, e, "h", asks, impl.SvFresh, "older", "cache-control", "max-age=100", "vary", "a", "age", "5")
	newer.Epoch = 1
	e = knowing(edgeAt(noon, newer, older), "key h/a", "key x")
	checkServed(t, e, "h", asks, impl.SvFresh, "newer", "cache-control", "max-age=100", "vary", "b", "surrogate-key", "t", "age", "1")
}

func TestFillAtTheEnd(t *testing.T) {
	f := fillingAt(noon - 2)
	want := impl.Object{Key: "h/a", Response: answerOf("cache-control", "max-age=10"), Asked: noon - 2, Got: noon}
	checkFill(t, edgeAt(noon), f, "h/a", want)
	for count := range 30 {
		list := numbered(count, noon-7)
		checkFill(t, edgeAt(noon, list...), f, "h/a", append(slices.Clone(list), want)...)
	}
	// Whatever lease there is.
	for _, until := range []int64{0, noon - 1, noon + 1, lastMoment} {
		e := edgeAt(noon, numbered(2, noon)...)
		e.Until = until
		checkFill(t, e, f, "h/a", append(numbered(2, noon), want)...)
	}
	for _, host := range []string{"H", "h"} {
		for _, target := range []string{"/./a", "/%61?", "/a"} {
			same := f.to(target)
			same.host = host
			checkFill(t, edgeAt(noon), same, "h/a", want)
		}
	}
	other := f.to("/b?y=1&x=2", "a", "1", "A", "2")
	other.host, other.a = "G", impl.Response{Status: 404, Fields: fieldsOf("ETag", "\"e\"", "a", "", "A", "7")}
	checkFill(t, edgeAt(noon, want), other, "g/b?x=2&y=1", want, impl.Object{Key: "g/b?x=2&y=1", Fields: fieldsOf("a", "1", "A", "2"), Response: other.a, Asked: noon - 2, Got: noon})
	// An answer to a Request with a Body is kept likewise.
	withBody := f
	withBody.r.Body = "xy"
	checkFill(t, edgeAt(noon), withBody, "h/a", want)
}

func TestFillInThePlaceOfOne(t *testing.T) {
	list := numbered(30, noon-7)
	for at := range list {
		f := fillingAt(noon).to(fmt.Sprint("/", at), "x", "1")
		filled := slices.Clone(list)
		filled[at] = impl.Object{Key: fmt.Sprint("h/", at), Fields: f.r.Fields, Response: f.a, Asked: noon, Got: noon}
		checkFill(t, edgeAt(noon, list...), f, filled[at].Key, filled...)
		checkFill(t, edgeAt(noon, list[:at+1]...), f, filled[at].Key, filled[:at+1]...)
	}
	one, two := variedAt("h/a", noon-9, "a", "a", "1"), variedAt("h/a", noon-8, "a", "a", "2")
	without, star := heldAt("h/a", noon-7, "etag", "\"e\""), variedAt("h/a", noon-7, "*")
	for _, other := range []impl.Object{without, star} {
		e := edgeAt(noon, one, other, two, heldAt("h/b", noon))
		for _, story := range []struct {
			vary  string
			asks  []string
			place int
		}{
			{"a", []string{"a", "1"}, 0}, {"A, a", []string{"A", "1", "b", "2"}, 0}, {"a", []string{"b", "1", "a", "2"}, 2}, {"a", []string{"a", "3"}, 4}, {"a", nil, 4}, {"b", []string{"a", "1"}, 4}, {"a, b", []string{"a", "1"}, 4},
			// One whose Selecting says false has an empty one, as one without a vary.
			{"", nil, 1}, {",", []string{"a", "1"}, 1},
		} {
			f := fillingAt(noon).to("/a", story.asks...).with("cache-control", "max-age=10", "Vary", story.vary)
			o := impl.Object{Key: "h/a", Fields: f.r.Fields, Response: f.a, Asked: noon, Got: noon}
			filled := append(slices.Clone(e.Objects), o)
			filled[story.place] = o
			checkFill(t, e, f, "h/a", filled[:max(len(e.Objects), story.place+1)]...)
		}
	}
}

func TestFillWithMaxObjects(t *testing.T) {
	want := impl.Object{Key: "h/a", Response: answerOf("cache-control", "max-age=10"), Asked: noon, Got: noon}
	for _, leasts := range [][]int{{0}, {29}, {14}, {0, 29}, {3, 4}, {28, 29}, {7, 8, 9}, {5, 1, 20}} {
		list := numbered(30, noon-1)
		for i := range list {
			list[i].Got -= int64(i * 7 % 5)
			list[i].Asked = list[i].Got - 100
		}
		for _, at := range leasts {
			list[at].Got, list[at].Asked = noon-20, noon-20
		}
		gone := slices.Min(leasts)
		checkFill(t, edgeAt(noon, list...), fillingAt(noon), "h/a", append(slices.Delete(slices.Clone(list), gone, gone+1), want)...)
	}
	// All are alike: the first one goes, also where all came just now.
	for _, got := range []int64{0, noon - 1, noon} {
		list := numbered(30, got)
		checkFill(t, edgeAt(noon, list...), fillingAt(noon), "h/a", append(slices.Clone(list[1:]), want)...)
		checkFill(t, edgeAt(noon, list[:29]...), fillingAt(noon), "h/a", append(slices.Clone(list[:29]), want)...)
	}
	// By Got, not by Asked, nor by Epoch.
	list := numbered(30, noon-1)
	list[4].Asked, list[5].Epoch, list[6].Got = 0, 7, noon-2
	list[6].Asked = noon - 2
	checkFill(t, edgeAt(noon, list...), fillingAt(noon), "h/a", append(slices.Delete(slices.Clone(list), 6, 7), want)...)
	// One after the other.
	e := edgeAt(noon)
	for i := range 100 {
		e, _ = fillingAt(noon).to(fmt.Sprint("/", i)).fill(e)
		if len(e.Objects) != min(i+1, 30) || e.Objects[0].Key != fmt.Sprint("h/", max(i-29, 0)) || e.Objects[len(e.Objects)-1].Key != fmt.Sprint("h/", i) || !impl.EdgeOk(e) {
			t.Fatalf("after %d: %s", i, shown(e))
		}
	}
	if !sameSketch(e.Sketch, fullSketch(256)) && !impl.Perhaps(e.Sketch, "h/0") {
		t.Errorf("what was Marked is not any more: %s", toldSketch(e.Sketch))
	}
}

func TestFillByAskedAndEpoch(t *testing.T) {
	for _, now := range []int64{0, 1, noon, lastMoment} {
		for _, count := range []int{0, 1, 2, 59, 60} {
			e := knowing(edgeAt(now), quietLog(count)...)
			for _, asked := range append([]int64{0, 1, now - 1, now, now + 1, now + 2, lastMoment, lastMoment + 1, noon}, farNumbers...) {
				for _, epoch := range append([]int64{0, 1, int64(count) - 1, int64(count), int64(count) + 1, int64(count) + 2, 60, 61, 100000, 100001}, farNumbers...) {
					f := fillingAt(asked)
					f.epoch = epoch
					if asked >= 0 && asked <= now && epoch >= 0 && epoch <= int64(count) {
						checkFill(t, e, f, "h/a", impl.Object{Key: "h/a", Response: f.a, Asked: asked, Got: now, Epoch: epoch})
					} else {
						checkNotFilled(t, e, f)
					}
				}
			}
		}
	}
}

func TestFillThatIsRefused(t *testing.T) {
	for _, e := range []impl.Edge{edgeAt(noon), freshEdge(), edgeAt(noon, numbered(30, noon)...), knowing(edgeAt(noon, numbered(3, noon)...), quietLog(60)...)} {
		f := fillingAt(noon)
		if _, is := f.fill(e); !is {
			t.Fatalf("Fill(%s): refused", shown(e))
		}
		for _, r := range wrongRequests() {
			wrong := f
			wrong.r = r
			checkNotFilled(t, e, wrong)
			wrong.r.Method = "GET"
			if !impl.RequestOk(wrong.r) {
				checkNotFilled(t, e, wrong)
			}
		}
		for _, host := range append(wrongNames(), "h:1", strings.Repeat("h", 65)) {
			wrong := f
			wrong.host = host
			checkNotFilled(t, e, wrong)
		}
		for _, target := range []string{"*", "a", "?", "/%", "/%4g", "/" + strings.Repeat("\"", 67)} {
			checkNotFilled(t, e, f.to(target))
		}
		for _, method := range []string{"PUT", "HEAD", "POST", "G"} {
			wrong := f
			wrong.r.Method = method
			checkNotFilled(t, e, wrong)
		}
		for _, a := range wrongResponses() {
			wrong := f
			wrong.a = a
			checkNotFilled(t, e, wrong)
			wrong.a.Fields = append(fieldsOf("cache-control", "max-age=10"), a.Fields...)
			if !impl.ResponseOk(wrong.a) {
				checkNotFilled(t, e, wrong)
			}
		}
	}
}

func TestFillOfWhatIsNotStorable(t *testing.T) {
	e := freshEdge()
	f := fillingAt(noon)
	for _, status := range []int64{200, 203, 204, 300, 301, 404, 410, 201, 205, 206, 299, 302, 303, 304, 400, 403, 405, 409, 411, 500, 503, 599} {
		one := f
		one.a.Status, one.a.Body = status, ""
		if slices.Contains(numbers(200, 203, 204, 300, 301, 404, 410), status) {
			checkFill(t, e, one, "h/a", impl.Object{Key: "h/a", Response: one.a, Asked: noon, Got: noon}, e.Objects[1])
		} else {
			checkNotFilled(t, e, one)
		}
	}
	for _, texts := range [][]string{nil, {"x", "1"}, {"cache-control", "no-store, max-age=10"}, {"cache-control", "private, max-age=10"}, {"cache-control", "no-cache"}, {"etag", "e"}, {"cache-control", "max-age=x"}, {"etag", "\"e\"", "Cache-Control", "No-Store"}} {
		checkNotFilled(t, e, f.with(texts...))
	}
	for _, texts := range [][]string{{"cache-control", "max-age=0"}, {"cache-control", "s-maxage=1"}, {"expires", "0"}, {"ETag", "W/\"\""}, {"cache-control", "no-cache", "etag", "\"e\""}} {
		checkFill(t, e, f.with(texts...), "h/a", impl.Object{Key: "h/a", Response: answerOf(texts...), Asked: noon, Got: noon}, e.Objects[1])
	}
	// By what is asked with.
	checkNotFilled(t, e, f.to("/a", "cache-control", "no-store"))
	checkNotFilled(t, e, f.to("/a", "authorization", "x"))
	authorized := f.to("/a", "authorization", "x").with("cache-control", "s-maxage=10")
	checkFill(t, e, authorized, "h/a", impl.Object{Key: "h/a", Fields: authorized.r.Fields, Response: authorized.a, Asked: noon, Got: noon}, e.Objects[1])
	// It is Storable by what it tells, hops or not: what goes with them is asked ahead.
	checkNotFilled(t, e, f.with("connection", "cache-control", "cache-control", "no-store", "etag", "\"e\""))
}

func TestFillWithHops(t *testing.T) {
	e := edgeAt(noon)
	for _, one := range []struct{ given, want []string }{
		{[]string{"te", "x", "etag", "\"e\"", "TE", "y"}, []string{"etag", "\"e\""}},
		{[]string{"connection", "x-a, X-B", "x-a", "1", "etag", "\"e\"", "x-b", "2", "x-c", "3"}, []string{"etag", "\"e\"", "x-c", "3"}},
		{[]string{"Keep-Alive", "1", "Trailer", "2", "Upgrade", "3", "Proxy-Connection", "4", "etag", "\"e\""}, []string{"etag", "\"e\""}},
		{[]string{"connection", "etag", "etag", "\"e\""}, nil},
		{[]string{"connection", "cache-control", "cache-control", "max-age=10", "age", "3"}, []string{"age", "3"}},
		// Its Hopless Fields' vary is asked for: one that goes with the hops is none.
		{[]string{"connection", "vary", "vary", "*", "etag", "\"e\""}, []string{"etag", "\"e\""}},
		{[]string{"connection", "close", "vary", "a", "etag", "\"e\""}, []string{"vary", "a", "etag", "\"e\""}},
	} {
		f := fillingAt(noon).to("/a", "a", "1", "connection", "a", "te", "x").with(one.given...)
		// What it was asked with stays whole.
		checkFill(t, e, f, "h/a", impl.Object{Key: "h/a", Fields: f.r.Fields, Response: answerOf(one.want...), Asked: noon, Got: noon})
	}
	// With a vary that went it is kept in the place of the one without a vary.
	e = edgeAt(noon, variedAt("h/a", noon-1, "a", "a", "1"), heldAt("h/a", noon-1, "etag", "\"e\""))
	f := fillingAt(noon).to("/a", "a", "1").with("vary", "a", "connection", "vary", "etag", "\"f\"")
	checkFill(t, e, f, "h/a", e.Objects[0], impl.Object{Key: "h/a", Fields: f.r.Fields, Response: answerOf("etag", "\"f\""), Asked: noon, Got: noon})
}

func TestFillByVary(t *testing.T) {
	for _, e := range []impl.Edge{edgeAt(noon), freshEdge(), edgeAt(noon, numbered(30, noon)...)} {
		for _, vary := range []string{"*", "a, *", "*, a", "a b", "\"a\"", "a;", "a:", "(", "a,,b c", strings.Repeat("a", 65)} {
			checkNotFilled(t, e, fillingAt(noon).to("/new", "a", "1").with("etag", "\"e\"", "vary", vary))
			checkNotFilled(t, e, fillingAt(noon).to("/new", "a", "1").with("etag", "\"e\"", "Vary", "a", "vary", vary))
		}
	}
	for _, vary := range []string{"", ",", "a", "A,b", "host", "x, y, z", "**", "*a", strings.Repeat("a", 64)} {
		f := fillingAt(noon).to("/new", "a", "1").with("etag", "\"e\"", "vary", vary)
		checkFill(t, edgeAt(noon), f, "h/new", impl.Object{Key: "h/new", Fields: f.r.Fields, Response: f.a, Asked: noon, Got: noon})
	}
}

func TestFillMarksItsKey(t *testing.T) {
	e := edgeAt(noon)
	set := []int64{}
	for i := range 40 {
		target := fmt.Sprint("/k", i)
		e, _ = fillingAt(noon).to(target).fill(e)
		set = plainUnion(256, set, plainMarks(256, "h"+target)).Bits
		if !slices.Equal(e.Sketch.Bits, set) || e.Sketch.Size != 256 {
			t.Fatalf("after %d: %s, not %v", i, toldSketch(e.Sketch), set)
		}
	}
}

func TestFillThatIsBarredAtOnce(t *testing.T) {
	e := knowing(edgeAt(noon), "key x", "key h/a", "key y")
	for epoch := range int64(4) {
		f := fillingAt(noon)
		f.epoch = epoch
		got, is := f.fill(e)
		code, _ := impl.Serve(got, "h", getting("/a"))
		// An answer that may be older than the purge is kept, but never served.
		if want := []int64{impl.SvMiss, impl.SvMiss, impl.SvFresh, impl.SvFresh}[epoch]; !is || code != want {
			t.Errorf("with the epoch %d: %v, %d", epoch, is, code)
		}
	}
}

func TestLearn(t *testing.T) {
	list := []impl.Object{keptAt("h/a", 0, "t"), keptAt("h/b", 1, "t"), keptAt("h/c", 2, "u"), keptAt("g/a", 0, "u"), keptAt("g/b", 100000, "t")}
	e := edgeAt(noon+3, list...)
	for _, one := range []struct {
		log  []string
		left []int
	}{
		{nil, []int{0, 1, 2, 3, 4}}, {[]string{"all"}, []int{1, 2, 4}}, {[]string{"key h/a"}, []int{1, 2, 3, 4}}, {[]string{"tag t"}, []int{1, 2, 3, 4}}, {[]string{"tag u"}, []int{0, 1, 2, 4}}, {[]string{"begin h/"}, []int{1, 2, 3, 4}},
		{[]string{"key none", "tag t"}, []int{2, 3, 4}}, {[]string{"key none", "key none", "all"}, []int{4}}, {[]string{"key none", "all"}, []int{2, 4}}, {[]string{"key h/a", "key h/b", "key h/c"}, []int{3, 4}}, {quietLog(60), []int{0, 1, 2, 3, 4}}, {append(quietLog(59), "all"), []int{4}},
	} {
		left := []impl.Object{}
		for _, at := range one.left {
			left = append(left, list[at])
		}
		checkLearn(t, e, one.log, left...)
		// The same once more, and by parts.
		learned, _ := impl.Learn(e, one.log)
		checkLearn(t, learned, one.log, left...)
		for part := range one.log {
			some, _ := impl.Learn(e, one.log[:part])
			checkLearn(t, some, one.log, left...)
		}
	}
	// What it has is barred by it already: it goes with the same log, too.
	checkLearn(t, knowing(e, "all"), []string{"all"}, list[1], list[2], list[4])
	checkLearn(t, knowing(e, "all"), []string{"all", "key h/b"}, list[2], list[4])
	// Neither the lease nor the hour nor what was Marked changes.
	e.Until, e.Sketch = 17, fullSketch(256)
	checkLearn(t, e, []string{"all"}, list[1], list[2], list[4])
}

func TestLearnThatIsRefused(t *testing.T) {
	e := knowing(edgeAt(noon, numbered(3, noon)...), "key a", "tag b", "begin c")
	for _, log := range [][]string{
		nil, {}, {"key a"}, {"key a", "tag b"}, {"all"}, {"tag b", "begin c"}, {"key a", "tag b", "begin d"}, {"key a", "tag b", "begin"}, {"key b", "tag b", "begin c"}, {"begin c", "tag b", "key a"}, {"key a", "begin c", "tag b", "all"}, {"all", "key a", "tag b", "begin c"}, {"key a", "tag b", "all", "begin c"}, {"key a ", "tag b", "begin c"},
	} {
		checkNotLearned(t, e, log)
	}
	checkLearn(t, e, []string{"key a", "tag b", "begin c", "key z"}, e.Objects...)
	// One that is not right, though it begins with what the edge has.
	for _, text := range append([]string{"", "x", "all x", "key", "key ", "key a b", "tag " + strings.Repeat("t", 201), "ALL"}, oddTexts...) {
		checkNotLearned(t, e, append(slices.Clone(e.Log), text))
		checkNotLearned(t, e, append(slices.Clone(e.Log), "all", text, "key z"))
		checkNotLearned(t, edgeAt(noon, numbered(3, noon)...), []string{text})
	}
	for _, count := range []int{58, 59, 60, 61, 62, 1000, 100000} {
		log := append(slices.Clone(e.Log), quietLog(count-3)...)
		if count <= 60 {
			checkLearn(t, e, log, e.Objects...)
		} else {
			checkNotLearned(t, e, log)
		}
	}
	full := knowing(e, quietLog(60)...)
	checkLearn(t, full, quietLog(60), e.Objects...)
	checkNotLearned(t, full, quietLog(59))
	checkNotLearned(t, full, append(quietLog(60), "all"))
	checkNotLearned(t, full, slices.Repeat([]string{"all"}, 60))
}

// drawnTarget is one of few places, in several ways to write them.
func drawnTarget(source *rand.Rand) string {
	return []string{"/a", "/b", "/ab", "/./a", "/%61", "/a?x=1", "/a?&x=1", "/x/../b", "/a?", "/c"}[source.Intn(10)]
}

func drawnAsk(source *rand.Rand) impl.Request {
	r := impl.Request{Method: "GET", Target: drawnTarget(source)}
	for _, field := range mixedAsks(source) {
		if impl.FieldsOk([]impl.Field{field}) {
			r.Fields = append(r.Fields, field)
		}
	}
	if source.Intn(3) == 0 {
		control := []string{"no-cache", "no-store", "max-age=5", "max-age=0", "max-stale=4", "max-stale", "max-stale, max-age=8"}[source.Intn(7)]
		r.Fields = append(r.Fields, impl.Field{Name: "Cache-Control", Value: control})
	}
	switch source.Intn(60) {
	case 0:
		r.Method = []string{"PUT", "get", "", "HEAD"}[source.Intn(4)]
	case 1:
		r.Target = []string{"*", "", "a", "/%", "/ a"}[source.Intn(5)]
	case 2:
		r.Fields = append(r.Fields, impl.Field{Name: "authorization", Value: "x"})
	case 3:
		r.Fields = append(r.Fields, impl.Field{Name: "content-length", Value: "0"})
	case 4:
		r.Body = "xy"
	}
	return r
}

func drawnHost(source *rand.Rand) string {
	return []string{"h", "h", "H", "g", "h", "h", "G", "h", "h h", ""}[source.Intn(10)*source.Intn(10)/9]
}

func drawnAnswer(source *rand.Rand) impl.Response {
	statuses := []int64{200, 200, 200, 200, 200, 404, 410, 203, 204, 500}
	controls := []string{"max-age=10", "max-age=10", "max-age=20, must-revalidate", "max-age=5", "s-maxage=7", "max-age=10, no-cache", "no-cache", "max-age=0", "no-store", "private, max-age=9"}
	a := impl.Response{Status: statuses[source.Intn(10)*source.Intn(10)/9], Fields: fieldsOf("cache-control", controls[source.Intn(10)*source.Intn(10)/9])}
	add := func(chance int, name string, values ...string) {
		if source.Intn(chance) == 0 {
			a.Fields = slices.Insert(a.Fields, source.Intn(len(a.Fields)+1), impl.Field{Name: name, Value: values[source.Intn(len(values))]})
		}
	}
	add(2, "etag", "\"e\"", "W/\"f\"", "\"e\"", "no tag")
	add(4, "Age", "3", "0", "x", "12")
	add(10, "AGE", "1")
	add(2, "surrogate-key", "t", "u", "t, u", "v", "\"t,u\"")
	add(8, "Date", dateText(noon), dateText(noon-5), "0")
	add(12, "connection", "vary", "close, etag", "age", "x")
	add(12, "te", "x")
	if source.Intn(2) == 0 {
		a.Fields = append(a.Fields, impl.Field{Name: "Vary", Value: mixedVary(source)})
	}
	if a.Status != 204 {
		a.Body = fmt.Sprint("body ", source.Intn(1000))
	}
	if source.Intn(50) == 0 {
		a.Fields = append(a.Fields, manyFields(30-len(a.Fields)+source.Intn(2))...)
	}
	return a
}

// drawnEdge is right; it has a lease mostly, and most of what it has is fresh.
func drawnEdge(source *rand.Rand) impl.Edge {
	e := impl.Edge{Log: drawnLog(source, []int{0, 1, 3, 8}[source.Intn(4)]), Now: noon + source.Int63n(30), Sketch: sketchOf(256)}
	e.Until = max(e.Now-3+source.Int63n(20), 0)
	names := map[[2]string]bool{}
	for range source.Intn([]int{1, 4, 12, 60}[source.Intn(4)]) {
		r, a := drawnAsk(source), drawnAnswer(source)
		key, is := impl.Key(drawnHost(source), r.Target)
		got := e.Now - source.Int63n(15)
		o := impl.Object{Key: key, Fields: r.Fields, Response: a, Asked: got - source.Int63n(3), Got: got, Epoch: source.Int63n(int64(len(e.Log)) + 2)}
		if len(e.Objects) == 29 || !is || !plainObjectOk(o) || names[plainName(o)] {
			continue
		}
		names[plainName(o)] = true
		e.Objects = append(e.Objects, o)
		e.Sketch = plainMarked(e.Sketch, key)
	}
	if source.Intn(8) == 0 {
		e = filledUp(source, e)
	}
	return e
}

// filledUp has MaxObjects, or one less, and of its least moments there may be several.
func filledUp(source *rand.Rand, e impl.Edge) impl.Edge {
	for _, o := range numbered(30-source.Intn(2)-len(e.Objects), e.Now) {
		o.Got -= source.Int63n(18)
		o.Asked = o.Got
		e.Objects = slices.Insert(e.Objects, source.Intn(len(e.Objects)+1), o)
		e.Sketch = plainMarked(e.Sketch, o.Key)
	}
	return e
}

func drawnFilling(source *rand.Rand, e impl.Edge) filling {
	f := filling{host: drawnHost(source), r: drawnAsk(source), a: drawnAnswer(source)}
	f.asked, f.epoch = e.Now-source.Int63n(4), source.Int63n(int64(len(e.Log))+1)
	switch source.Intn(30) {
	case 0:
		f.asked = e.Now + 1
	case 1:
		f.epoch = int64(len(e.Log)) + 1
	case 2:
		f.asked = farNumbers[source.Intn(len(farNumbers))]
	case 3:
		f.epoch = farNumbers[source.Intn(len(farNumbers))]
	}
	return f
}

// checkEdgeAsTold holds all functions against their second tellings, and answers what they told.
func checkEdgeAsTold(t *testing.T, e impl.Edge, until, drift, seconds int64, f filling, log []string) (int64, bool, bool) {
	t.Helper()
	if is := impl.EdgeOk(e); is != plainEdgeOk(e) {
		t.Fatalf("EdgeOk(%s): %v", shown(e), is)
	}
	if got, want := impl.Renew(e, until, drift), plainRenew(e, until, drift); !sameEdge(got, want) {
		t.Fatalf("Renew(%s, %d, %d): %s, not %s", shown(e), until, drift, shown(got), shown(want))
	}
	got, is := impl.Elapse(e, seconds)
	if want, too := plainElapse(e, seconds); is != too || !sameEdge(got, want) {
		t.Fatalf("Elapse(%s, %d): %s, %v, not %s", shown(e), seconds, shown(got), is, shown(want))
	}
	code, a := impl.Serve(e, f.host, f.r)
	if want, told := plainServe(e, f.host, f.r); code != want || !sameResponse(a, told) {
		t.Fatalf("Serve(%s, %q, %s): %d, %s, not %d, %s", shown(e), f.host, shown(f.r), code, shown(a), want, shown(told))
	}
	got, filled := f.fill(e)
	if want, too := plainFill(e, f.host, f.r, f.a, f.asked, f.epoch); filled != too || !sameEdge(got, want) {
		t.Fatalf("Fill(%s, %s): %s, %v, not %s", shown(e), shown(f), shown(got), filled, shown(want))
	}
	got, learned := impl.Learn(e, log)
	if want, too := plainLearn(e, log); learned != too || !sameEdge(got, want) {
		t.Fatalf("Learn(%s, %.200q): %s, %v, not %s", shown(e), log, shown(got), learned, shown(want))
	}
	return code, filled, learned
}

// drawnLonger is a log that goes on where the edge's ends, but for one in many.
func drawnLonger(source *rand.Rand, e impl.Edge) []string {
	log := append(slices.Clone(e.Log), drawnLog(source, 4)...)
	switch source.Intn(12) {
	case 0:
		log = drawnLog(source, 5)
	case 1:
		log = log[:source.Intn(len(log)+1)]
	case 2:
		log = append(log, "x")
	case 3:
		log = append(log, quietLog(57)...)
	}
	return log
}

func TestDrawnEdges(t *testing.T) {
	source := rand.New(rand.NewSource(59))
	told := map[string]int{}
	for range 3000 {
		e := drawnEdge(source)
		if !plainEdgeOk(e) {
			t.Fatalf("%s was drawn", shown(e))
		}
		f, log := drawnFilling(source, e), drawnLonger(source, e)
		until, drift, seconds := e.Now-3+source.Int63n(60), source.Int63n(110000)-5000, source.Int63n(20)-2
		code, filled, learned := checkEdgeAsTold(t, e, until, drift, seconds, f, log)
		got, _ := f.fill(e)
		told[fmt.Sprint("serve ", code)]++
		told[fmt.Sprint("fill ", filled)]++
		told[fmt.Sprint("learn ", learned)]++
		if filled {
			told[fmt.Sprint("filled ", len(got.Objects)-len(e.Objects))]++
		}
		if filled && len(e.Objects) == 30 && got.Objects[29].Got == e.Now && !sameObjects(got.Objects[:29], e.Objects[:29]) {
			told["with MaxObjects"]++
		}
		if plainChosen(e.Objects, "h/a", f.r.Fields) != plainChosen(plainKept(e.Log, e.Objects), "h/a", f.r.Fields) {
			told["another one is chosen"]++
		}
	}
	for _, kind := range []string{"serve 1", "serve 2", "serve 3", "serve 400", "fill true", "fill false", "learn true", "learn false", "filled 0", "filled 1", "with MaxObjects", "another one is chosen"} {
		if told[kind] < 40 {
			t.Errorf("%s: %d times only", kind, told[kind])
		}
	}
}

// An edge that was right is made wrong at one place or none, and all is asked of it.
func TestDrawnEdgesThatMayBeWrong(t *testing.T) {
	source := rand.New(rand.NewSource(60))
	right, wrong := 0, 0
	for range 2000 {
		e, other := drawnEdge(source), drawnEdge(source)
		e.Objects = slices.Clone(e.Objects)
		far := append(slices.Clone(farNumbers), lastMoment, lastMoment+1, 0, 1, noon)[source.Intn(len(farNumbers)+5)]
		at := source.Intn(len(e.Objects) + 1)
		switch source.Intn(11) {
		case 0:
			e.Now = far
		case 1:
			e.Until = far
		case 2:
			e.Now = noon - 10 + source.Int63n(20)
		case 3:
			e.Sketch = []impl.Sketch{other.Sketch, {}, {Size: 255, Bits: e.Sketch.Bits}, {Size: far}, fullSketch(512)}[source.Intn(5)]
		case 4:
			e.Sketch.Bits = slices.DeleteFunc(slices.Clone(e.Sketch.Bits), func(int64) bool { return source.Intn(8) == 0 })
		case 5:
			e.Objects = slices.Concat(e.Objects, other.Objects)
			e.Sketch = fullSketch(256)
		case 6:
			e.Log = append(slices.Clone(e.Log), []string{"x", "", "all", "all ", "key h/a"}[source.Intn(5)])
		case 7:
			e.Objects = slices.Insert(e.Objects, at, drawnKept(source, 3))
			e.Now, e.Sketch = noon+50, fullSketch(256)
		case 8:
			if at < len(e.Objects) {
				o := &e.Objects[at]
				*[]*int64{&o.Asked, &o.Got, &o.Epoch, &o.Response.Status}[source.Intn(4)] = far
			}
		case 9:
			if at < len(e.Objects) {
				e.Objects = append(e.Objects, e.Objects[at])
			}
		}
		f, log := drawnFilling(source, e), drawnLonger(source, e)
		checkEdgeAsTold(t, e, far, source.Int63n(110000)-5000, far, f, log)
		if plainEdgeOk(e) {
			right++
		} else {
			wrong++
			checkEdgeOk(t, e, false)
		}
	}
	if right < 400 || wrong < 600 {
		t.Errorf("%d right, %d wrong only", right, wrong)
	}
}

// edgeTale is an edge that was new once, with a book of all that was ever kept, by the Bodies, and of the lease.
type edgeTale struct {
	impl.Edge
	t     *testing.T
	book  map[string]impl.Object
	until int64
	told  map[string]int
}

func newEdgeTale(t *testing.T, told map[string]int) *edgeTale {
	e, _ := impl.NewEdge(noon)
	return &edgeTale{Edge: e, t: t, book: map[string]impl.Object{}, told: told}
}

func (s *edgeTale) become(e impl.Edge, act string) {
	s.t.Helper()
	if !impl.EdgeOk(e) || !plainEdgeOk(e) {
		s.t.Fatalf("by %s %s became %s", act, shown(s.Edge), shown(e))
	}
	s.Edge = e
}

// goOn asks for one thing that is drawn.
func (s *edgeTale) goOn(source *rand.Rand) {
	s.t.Helper()
	switch source.Intn(10) {
	case 0:
		until, drift := s.Now+source.Int63n(25)-2, source.Int63n(100001)
		s.become(impl.Renew(s.Edge, until, drift), "Renew")
		if until >= s.Now {
			s.until = max(s.until, plainLease(s.Now, until, drift))
		}
	case 1, 2:
		seconds := source.Int63n(5)
		e, _ := impl.Elapse(s.Edge, seconds)
		s.become(e, "Elapse")
	case 3:
		if source.Intn(2) == 0 {
			e, is := impl.Learn(s.Edge, drawnLonger(source, s.Edge))
			s.become(e, "Learn")
			s.told[fmt.Sprint("learn ", is)]++
		}
	default:
		s.fill(source)
	}
}

func (s *edgeTale) fill(source *rand.Rand) {
	s.t.Helper()
	f := drawnFilling(source, s.Edge)
	if f.a.Status != 204 {
		// No two that were kept have one Body.
		f.a.Body = fmt.Sprint("body ", len(s.book))
	}
	e, is := f.fill(s.Edge)
	s.become(e, "Fill")
	s.told[fmt.Sprint("fill ", is)]++
	if is {
		key, _ := plainAsked(f.host, f.r)
		a := f.a
		a.Fields = plainHopless(a.Fields)
		s.book[a.Body] = impl.Object{Key: key, Fields: f.r.Fields, Response: a, Asked: f.asked, Got: s.Now, Epoch: f.epoch}
	}
}

// ask holds what is served against the book, whatever the edge has.
func (s *edgeTale) ask(host string, r impl.Request) {
	s.t.Helper()
	code, a := impl.Serve(s.Edge, host, r)
	s.told[fmt.Sprint("serve ", code)]++
	if code != impl.SvFresh && code != impl.SvCheck || a.Body == "" {
		return
	}
	key, is := plainAsked(host, r)
	o, there := s.book[a.Body]
	if !is || !there || r.Method != "GET" || !plainMatchesKept(o, key, r.Fields) || a.Status != o.Response.Status {
		s.t.Fatalf("%q %s was asked for, and %s served", host, shown(r), shown(o))
	}
	if s.Until != s.until || s.Now > s.until {
		s.t.Fatalf("at %d with a lease till %d it is served", s.Now, s.until)
	}
	if plainBarred(s.Log, o) {
		s.t.Fatalf("%s is Barred by %q and served", shown(o), s.Log)
	}
	age, asked := plainAgeAt(o, s.Now), plainControl(r.Fields)
	over := age - plainLifetime(o.Response)
	if code == impl.SvFresh && over >= 0 && asked.Stale < over || asked.MaxAge >= 0 && code == impl.SvFresh && age > asked.MaxAge {
		s.t.Fatalf("%s is served at %d to one who asks with %q", shown(o), s.Now, r.Fields)
	}
	want := o.Response.Fields
	if code == impl.SvFresh {
		want = append(plainWithout(want, "age"), impl.Field{Name: "age", Value: strconv.FormatInt(age, 10)})
	}
	if !slices.Equal(a.Fields, want) {
		s.t.Fatalf("of %s at %d it tells %q", shown(o), s.Now, a.Fields)
	}
}

// NEVER AN OLD ANSWER: what is served is fresh or as stale as it was asked for, not Barred by what is known, and under a lease.
func TestNeverAnOldAnswer(t *testing.T) {
	source := rand.New(rand.NewSource(61))
	told := map[string]int{}
	for range 70 {
		s := newEdgeTale(t, told)
		for range 80 {
			s.goOn(source)
			for range 3 {
				s.ask(drawnHost(source), drawnAsk(source))
			}
		}
	}
	for _, kind := range []string{"serve 1", "serve 2", "serve 3", "serve 400", "fill true", "fill false", "learn true", "learn false"} {
		if told[kind] < 50 {
			t.Errorf("%s: %d times only", kind, told[kind])
		}
	}
}

// What Learn bars is not served from then on: not later, not with another lease, and not by what was fetched ahead of it and comes only now.
func TestNothingBarredIsServedFromThenOn(t *testing.T) {
	source := rand.New(rand.NewSource(62))
	barred, fetched := 0, 0
	for range 1500 {
		e := drawnEdge(source)
		e.Until = lastMoment
		p := drawnPurge(source)
		log := append(slices.Clone(e.Log), plainShowPurge(p))
		learned, is := impl.Learn(e, log)
		if !is {
			t.Fatalf("Learn(%s, %q): false", shown(e), log)
		}
		for range 6 {
			f := drawnFilling(source, e)
			f.asked, f.epoch = e.Now, source.Int63n(int64(len(log)))
			f.a.Status, f.a.Body = 200, "what comes late"
			key, is := plainAsked(f.host, f.r)
			if !is {
				continue
			}
			late, filled := f.fill(learned)
			later, _ := impl.Elapse(late, source.Int63n(5))
			code, a := impl.Serve(later, f.host, f.r)
			o := impl.Object{Key: key, Fields: f.r.Fields, Response: f.a, Epoch: f.epoch}
			o.Response.Fields = plainHopless(f.a.Fields)
			if filled && plainHits(p, o) {
				if a.Body == f.a.Body {
					t.Fatalf("%s was fetched ahead of %q, and is served with %d", shown(o), log, code)
				}
				fetched++
			}
			if p.Kind == impl.PgAll || p.Kind == impl.PgKey && p.Text == key || p.Kind == impl.PgBegin && strings.HasPrefix(key, p.Text) {
				code, a = impl.Serve(learned, f.host, f.r)
				fresh := slices.ContainsFunc(e.Objects, func(o impl.Object) bool { return o.Key == key && o.Epoch >= int64(len(log)) })
				if !fresh && code != impl.SvMiss {
					t.Fatalf("%s learned %q, and serves %s", shown(e), log, shown(a))
				}
				barred++
			}
		}
		for _, o := range learned.Objects {
			if plainBarred(log, o) {
				t.Fatalf("%s is there, and %q is known", shown(o), log)
			}
		}
	}
	if barred < 300 || fetched < 300 {
		t.Errorf("%d barred, %d fetched only", barred, fetched)
	}
}

func roomyEdge(e impl.Edge) impl.Edge {
	return impl.Edge{Objects: roomyObjects(e.Objects), Log: roomyTexts(e.Log), Now: e.Now, Until: e.Until, Sketch: roomySketch(e.Sketch)}
}

// wholeEdge has what stands in the room behind its lists, too, in new memory.
func wholeEdge(e impl.Edge) impl.Edge {
	whole := impl.Edge{Objects: deepObjects(e.Objects[:cap(e.Objects)]), Now: e.Now, Until: e.Until}
	for _, text := range e.Log[:cap(e.Log)] {
		whole.Log = append(whole.Log, strings.Clone(text))
	}
	whole.Sketch = impl.Sketch{Size: e.Sketch.Size, Bits: slices.Clone(e.Sketch.Bits[:cap(e.Sketch.Bits)])}
	return whole
}

// edgeTexts are all of an edge, with what stands in the room behind its lists.
func edgeTexts(e impl.Edge) []string {
	texts := slices.Clone(e.Log[:cap(e.Log)])
	for _, o := range e.Objects[:cap(e.Objects)] {
		texts = append(texts, allTexts(o)...)
	}
	return texts
}

func fieldsInside(e impl.Edge) [][]impl.Field {
	lists := [][]impl.Field{}
	for _, o := range e.Objects[:cap(e.Objects)] {
		lists = append(lists, o.Fields, o.Response.Fields)
	}
	return lists
}

func checkEdgesApart(t *testing.T, a, b impl.Edge) {
	t.Helper()
	if objectsShare(a.Objects, b.Objects) || textsListShare(a.Log, b.Log) || numbersShare(a.Sketch.Bits, b.Sketch.Bits) {
		t.Fatalf("the lists of %s and %s share memory", shown(a), shown(b))
	}
	for _, list := range fieldsInside(a) {
		for _, other := range fieldsInside(b) {
			if listsShare(list, other) {
				t.Fatalf("Fields of %s and %s share memory", shown(a), shown(b))
			}
		}
	}
	if anyShares(edgeTexts(a), edgeTexts(b)) {
		t.Fatalf("texts of %s and %s share memory", shown(a), shown(b))
	}
}

// checkApartInside: no two lists of Fields of one edge share memory, and no two texts of its Objects.
func checkApartInside(t *testing.T, e impl.Edge) {
	t.Helper()
	lists := fieldsInside(e)
	for i := range lists {
		for j := range i {
			if listsShare(lists[i], lists[j]) || textsShare(lists[i], textsIn(lists[j])...) {
				t.Fatalf("Fields %d and %d of %s share memory", i, j, shown(e))
			}
		}
	}
}

func writeIntoEdge(e impl.Edge) {
	writeInto(e.Objects)
	for i := range e.Log[:cap(e.Log)] {
		e.Log[:cap(e.Log)][i] = "written"
	}
	for i := range e.Sketch.Bits[:cap(e.Sketch.Bits)] {
		e.Sketch.Bits[:cap(e.Sketch.Bits)][i] = 77
	}
}

func TestEdgesStayAndAnswersAreNewMemory(t *testing.T) {
	source := rand.New(rand.NewSource(63))
	seen := map[string]int{}
	for round := range 300 {
		given := drawnEdge(source)
		given.Objects = given.Objects[:min(len(given.Objects), 8)]
		if round%20 == 0 {
			given = edgeAt(noon, numbered(30, noon-1)...)
		}
		if round%9 == 0 {
			given.Now = -1
		}
		e, drawn := roomyEdge(given), drawnFilling(source, given)
		f := filling{host: strings.Clone(drawn.host), r: drawn.r, a: roomyResponse(drawn.a), asked: drawn.asked, epoch: drawn.epoch}
		f.r = impl.Request{Method: strings.Clone(drawn.r.Method), Target: strings.Clone(drawn.r.Target), Fields: roomy(drawn.r.Fields), Body: drawn.r.Body}
		if round%3 == 0 && len(given.Objects) > 0 {
			// In the place of one, whose Fields are the same.
			f.r.Fields, f.r.Target, f.host = roomy(given.Objects[0].Fields), strings.TrimPrefix(given.Objects[0].Key, "h"), "h"
		}
		log := roomyTexts(append(slices.Clone(given.Log), drawnLog(source, 3)...))
		was, wasAsks, wasTold, wasLog := wholeEdge(e), deepFields(f.r.Fields[:cap(f.r.Fields)]), deepFields(f.a.Fields[:cap(f.a.Fields)]), slices.Clone(log[:cap(log)])
		taken := impl.Edge{Objects: []impl.Object{{Key: f.host, Fields: f.r.Fields, Response: f.a}, {Key: f.r.Target}}, Log: log}
		acts := []func() impl.Edge{
			func() impl.Edge { return impl.Renew(e, e.Now+9, 7) },
			func() impl.Edge { return impl.Renew(e, -1, 7) },
			func() impl.Edge { got, _ := impl.Elapse(e, 1); return got },
			func() impl.Edge {
				got, is := f.fill(e)
				seen[fmt.Sprint("fill ", is)]++
				return got
			},
			func() impl.Edge { got, is := impl.Learn(e, log); seen[fmt.Sprint("learn ", is)]++; return got },
			func() impl.Edge { got, _ := impl.Learn(e, []string{"x"}); return got },
			func() impl.Edge { got, _ := impl.NewEdge(e.Now); return got },
			func() impl.Edge {
				code, a := impl.Serve(e, f.host, f.r)
				seen[fmt.Sprint("serve ", code)]++
				return impl.Edge{Objects: []impl.Object{{Response: a}}}
			},
		}
		for _, act := range acts {
			impl.EdgeOk(e)
			first, second := act(), act()
			checkEdgesApart(t, first, e)
			checkEdgesApart(t, first, taken)
			checkEdgesApart(t, first, second)
			checkApartInside(t, first)
			wanted := wholeEdge(second)
			writeIntoEdge(first)
			if !sameEdge(wholeEdge(second), wanted) {
				t.Fatalf("an answer became %s", shown(second))
			}
			if !sameEdge(wholeEdge(e), was) || !slices.Equal(f.r.Fields[:cap(f.r.Fields)], wasAsks) || !slices.Equal(f.a.Fields[:cap(f.a.Fields)], wasTold) || !slices.Equal(log[:cap(log)], wasLog) {
				t.Fatalf("%s became %s, or %s or %q", shown(was), shown(e), shown(f), log)
			}
		}
	}
	for _, kind := range []string{"fill true", "fill false", "learn true", "learn false", "serve 1", "serve 2", "serve 3", "serve 400"} {
		if seen[kind] < 20 {
			t.Errorf("%s: %d times only", kind, seen[kind])
		}
	}
}

// Each function answers, whatever it is given.
func TestEdgeFunctionsAnswerAtEveryArgument(t *testing.T) {
	far := []int64{least, least + 1, -lastMoment, -1, 0, 1, 59, 60, 61, 100000, 100001, noon, lastMoment - 1, lastMoment, lastMoment + 1, 1 << 62, greatest - 1, greatest}
	edges := []impl.Edge{{}, edgeAt(noon), freshEdge(), knowing(freshEdge(), quietLog(60)...), edgeAt(lastMoment, numbered(30, lastMoment)...), edgeAt(0, heldAt("h/a", 0, "etag", "\"e\""))}
	for _, e := range edges {
		for _, a := range far {
			for _, b := range far {
				f := fillingAt(a)
				f.epoch = b
				checkEdgeAsTold(t, e, a, b, b, f, nil)
			}
			for field := range 6 {
				changed := e
				changed.Objects = append(slices.Clone(e.Objects), heldAt("h/z", 0))
				o := &changed.Objects[len(changed.Objects)-1]
				*[]*int64{&changed.Now, &changed.Until, &changed.Sketch.Size, &o.Asked, &o.Got, &o.Epoch}[field] = a
				checkEdgeAsTold(t, changed, a, 0, a, fillingAt(0), quietLog(2))
			}
			checkNewEdge(t, a)
		}
		for _, text := range append(append(slices.Clone(oddTexts), hugeTexts()...), "", "h/a", "h/ a") {
			f := fillingAt(0)
			checkEdgeAsTold(t, e, noon, 0, 0, f.to(text), []string{text})
			checkEdgeAsTold(t, e, noon, 0, 0, f.to("/a", "vary", text), append(slices.Clone(e.Log), text))
			checkEdgeAsTold(t, e, noon, 0, 0, f.with("etag", "\"e\"", "vary", text), nil)
			checkEdgeAsTold(t, e, noon, 0, 0, f.with("etag", text, text, text), nil)
			f.host = text
			checkEdgeAsTold(t, e, noon, 0, 0, f, nil)
			f.host, f.r.Method, f.r.Body = "h", text, text
			checkEdgeAsTold(t, e, noon, 0, 0, f, nil)
			f = fillingAt(0)
			f.a.Body = text
			checkEdgeAsTold(t, e, noon, 0, 0, f, nil)
			changed := e
			changed.Log = append(slices.Clone(e.Log), text)
			checkEdgeAsTold(t, changed, noon, 0, 0, f, nil)
			changed = e
			changed.Objects = append(slices.Clone(e.Objects), heldAt(text, 0), variedAt("h/a", 0, text), bodied(heldAt("h/b", 0), text))
			checkEdgeAsTold(t, changed, noon, 0, 0, f, nil)
		}
	}
	checkEdgeAsTold(t, impl.Edge{Objects: make([]impl.Object, 100000), Log: make([]string, 100000), Sketch: impl.Sketch{Size: 256, Bits: make([]int64, 100000)}}, 0, 0, 0, fillingAt(0), make([]string, 100000))
	// At the very beginning of time.
	first, _ := impl.NewEdge(0)
	checkEdgeAsTold(t, first, 0, 0, 0, fillingAt(0), nil)
	first, _ = fillingAt(0).fill(first)
	checkEdgeAsTold(t, first, 0, 0, 0, fillingAt(0), nil)
}
