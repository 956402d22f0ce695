package flow

import (
	"math"
	"slices"
	"testing"

	"assayer/api"
	"assayer/plain"
	"assayer/rng"
)

// notNodes has numbers of nodes that no graph has.
var notNodes = []int{math.MinInt, math.MinInt + 1, -12, -1, 0, 13, 14, 64, math.MaxInt}

// below returns a number from 0 to limit-1 at random.
func below(seed *api.Seed, limit int) int {
	k, next, err := rng.Below(*seed, limit)
	if err != nil {
		panic(err)
	}
	*seed = next
	return k
}

// edges returns the edges between each two nodes that follow each other.
func edges(ends ...int) []api.Edge {
	var l []api.Edge
	for k := 0; k < len(ends); k += 2 {
		l = append(l, api.Edge{From: ends[k], To: ends[k+1]})
	}
	return l
}

// randomEdges returns edges between n nodes at random, loops and duplicates
// among them.
func randomEdges(seed *api.Seed, n, count int) []api.Edge {
	var l []api.Edge
	for range count {
		l = append(l, api.Edge{From: below(seed, n), To: below(seed, n)})
	}
	return l
}

// eachGraph calls do for all graphs with up to 3 nodes and no duplicates, and
// for some with up to 12 nodes and 30 edges.
func eachGraph(do func(n int, l []api.Edge)) {
	for n := 1; n <= 3; n++ {
		for set := range 1 << (n * n) {
			var l []api.Edge
			for k := range n * n {
				if set>>k&1 == 1 {
					l = append(l, api.Edge{From: k / n, To: k % n})
				}
			}
			do(n, l)
		}
	}
	seed := rng.New(15)
	for n := 1; n <= api.MaxNodes; n++ {
		for range 60 {
			do(n, randomEdges(&seed, n, below(&seed, api.MaxEdges+1)))
		}
	}
}

// connected reports whether there is an edge between two nodes.
func connected(l []api.Edge, from, to int) bool {
	return slices.Contains(l, api.Edge{From: from, To: to})
}

// reachable returns the nodes to which 0 is connected by edges, and 0, by adding
// the ends of edges as long as there are new ones.
func reachable(n int, l []api.Edge) []int {
	has := map[int]bool{0: true}
	for range n {
		for _, e := range l {
			has[e.To] = has[e.To] || has[e.From]
		}
	}
	var list []int
	for node := range n {
		if has[node] {
			list = append(list, node)
		}
	}
	return list
}

// passed counts, for each node i, the paths without repeated nodes from 0 to i,
// and for each node how many of them pass it.
func passed(n int, l []api.Edge) (paths []int, through [][]int) {
	paths, through = make([]int, n), make([][]int, n)
	for i := range through {
		through[i] = make([]int, n)
	}
	var extend func(path []int)
	extend = func(path []int) {
		end := path[len(path)-1]
		paths[end]++
		for _, node := range path {
			through[end][node]++
		}
		for next := range n {
			if connected(l, end, next) && !slices.Contains(path, next) {
				extend(append(slices.Clone(path), next))
			}
		}
	}
	extend([]int{0})
	return paths, through
}

// checkReach checks what Reach returns without an error.
func checkReach(t *testing.T, n int, l []api.Edge, want ...int) {
	t.Helper()
	if got, err := Reach(n, l); !slices.Equal(got, want) || err != nil {
		t.Errorf("Reach(%d, %v) = %v, %v, want %v", n, l, got, err, want)
	}
}

// checkOver checks what Over returns without an error.
func checkOver(t *testing.T, n int, l []api.Edge, i int, want ...int) {
	t.Helper()
	if got, err := Over(n, l, i); !slices.Equal(got, want) || err != nil {
		t.Errorf("Over(%d, %v, %d) = %v, %v, want %v", n, l, i, got, err, want)
	}
}

// checkLeft checks what Left returns without an error.
func checkLeft(t *testing.T, n int, l []api.Edge, way []int, want []api.Edge) {
	t.Helper()
	if got, err := Left(n, l, way); !slices.Equal(got, want) || err != nil {
		t.Errorf("Left(%d, %v, %v) = %v, %v, want %v", n, l, way, got, err, want)
	}
}

// overFails checks the error of Over.
func overFails(t *testing.T, n int, l []api.Edge, i int, want api.Errno) {
	t.Helper()
	if got, err := Over(n, l, i); len(got) != 0 || plain.Told(err) != want {
		t.Errorf("Over(%d, %v, %d) = %v, %v, want %v alone", n, l, i, got, err, want)
	}
}

// leftFails checks the error of Left.
func leftFails(t *testing.T, n int, l []api.Edge, way []int, want api.Errno) {
	t.Helper()
	if got, err := Left(n, l, way); len(got) != 0 || plain.Told(err) != want {
		t.Errorf("Left(%d, %v, %v) = %v, %v, want %v alone", n, l, way, got, err, want)
	}
}

// allFail checks the error that all functions return for a graph, also for nodes
// that do not exist or are not reachable, and for lists that are no paths.
func allFail(t *testing.T, n int, l []api.Edge, want api.Errno) {
	t.Helper()
	if err := Check(n, l); plain.Told(err) != want {
		t.Errorf("Check(%d, %v) = %v, want %v", n, l, err, want)
	}
	if got, err := Reach(n, l); len(got) != 0 || plain.Told(err) != want {
		t.Errorf("Reach(%d, %v) = %v, %v, want %v alone", n, l, got, err, want)
	}
	for _, i := range []int{0, n - 1, n, -1, math.MinInt, math.MaxInt} {
		overFails(t, n, l, i, want)
		leftFails(t, n, l, []int{0, i}, want)
		leftFails(t, n, l, []int{i}, want)
	}
	leftFails(t, n, l, nil, want)
}

// FL1: from 1 to 12 nodes and up to 30 edges, loops and duplicates among them.
func TestCheck(t *testing.T) {
	for n := 1; n <= 12; n++ {
		for _, e := range []api.Edge{{From: 0, To: n - 1}, {From: n - 1, To: 0}, {From: n - 1, To: n - 1}} {
			for count := range 31 {
				l := slices.Repeat([]api.Edge{e}, count)
				if err := Check(n, l); err != nil {
					t.Errorf("Check(%d, %v) = %v", n, l, err)
				}
			}
		}
		if err := Check(n, nil); err != nil {
			t.Errorf("Check(%d, nil) = %v", n, err)
		}
	}
}

// FL1, FL2: ErrRange for a number of nodes that is not from 1 to 12, before
// ErrFull.
func TestNoNumberOfNodes(t *testing.T) {
	for _, n := range notNodes {
		for _, count := range []int{0, 1, 30, 31, 100} {
			allFail(t, n, slices.Repeat(edges(0, 0), count), api.ErrRange)
			allFail(t, n, slices.Repeat(edges(-1, n), count), api.ErrRange)
		}
		allFail(t, n, nil, api.ErrRange)
	}
}

// FL1, FL2: ErrFull for more than 30 edges, before the ErrRange of an edge.
func TestTooManyEdges(t *testing.T) {
	for n := 1; n <= 12; n++ {
		for _, count := range []int{31, 32, 100, 1000} {
			allFail(t, n, slices.Repeat(edges(0, 0), count), api.ErrFull)
			allFail(t, n, slices.Repeat(edges(0, n-1), count), api.ErrFull)
			allFail(t, n, slices.Repeat(edges(-1, n), count), api.ErrFull)
		}
	}
}

// FL1, FL2: ErrRange for an edge with a node that does not exist, wherever it
// is.
func TestNoNodeOfEdge(t *testing.T) {
	for n := 1; n <= 12; n++ {
		for _, bad := range []int{math.MinInt, -n, -1, n, n + 1, 13, 64, math.MaxInt} {
			for _, e := range []api.Edge{{From: bad, To: 0}, {From: 0, To: bad}, {From: bad, To: bad}} {
				for _, at := range []int{0, 1, 29} {
					l := slices.Repeat(edges(0, n-1), 30)
					l[at] = e
					allFail(t, n, l, api.ErrRange)
				}
				allFail(t, n, []api.Edge{e}, api.ErrRange)
			}
		}
	}
}

// FL1: Reach returns the reachable nodes, also of graphs with cycles, loops and
// duplicates, and of edges in any order.
func TestReach(t *testing.T) {
	checkReach(t, 1, nil, 0)
	checkReach(t, 12, nil, 0)
	checkReach(t, 1, edges(0, 0, 0, 0), 0)
	checkReach(t, 3, edges(1, 2, 2, 0), 0)
	checkReach(t, 5, edges(0, 1, 0, 2, 1, 3, 2, 3), 0, 1, 2, 3)
	checkReach(t, 5, edges(0, 4, 4, 2, 2, 2, 2, 4), 0, 2, 4)
	checkReach(t, 4, edges(2, 3, 1, 2, 0, 1), 0, 1, 2, 3)
	checkReach(t, 12, edges(0, 11, 11, 10, 10, 9, 9, 8, 8, 7, 7, 6, 6, 5, 5, 4, 4, 3, 3, 2, 2, 1),
		0, 1, 2, 3, 4, 5, 6, 7, 8, 9, 10, 11)
}

// FL1: Reach of many graphs.
func TestReachMany(t *testing.T) {
	eachGraph(func(n int, l []api.Edge) { checkReach(t, n, l, reachable(n, l)...) })
}

// FL1: Over returns the nodes that cannot be passed by, with both ends.
func TestOver(t *testing.T) {
	diamond := edges(0, 1, 0, 2, 1, 3, 2, 3)
	checkOver(t, 5, diamond, 0, 0)
	checkOver(t, 5, diamond, 1, 0, 1)
	checkOver(t, 5, diamond, 2, 0, 2)
	checkOver(t, 5, diamond, 3, 0, 3)
	chain := edges(0, 3, 3, 1, 1, 2)
	checkOver(t, 4, chain, 2, 0, 1, 2, 3)
	checkOver(t, 4, chain, 1, 0, 1, 3)
	// The way back to a node, and the edges from unreachable nodes, change nothing.
	loop := edges(0, 1, 1, 2, 2, 1, 2, 3, 3, 0, 4, 3, 4, 0)
	checkOver(t, 5, loop, 0, 0)
	checkOver(t, 5, loop, 3, 0, 1, 2, 3)
	checkOver(t, 1, nil, 0, 0)
	checkOver(t, 1, edges(0, 0), 0, 0)
	checkOver(t, 2, edges(0, 1, 0, 1, 1, 1), 1, 0, 1)
	checkOver(t, 4, edges(0, 1, 1, 2, 2, 3, 0, 2), 3, 0, 2, 3)
}

// FL1: Over of all nodes of many graphs, against all paths to them.
func TestOverMany(t *testing.T) {
	eachGraph(func(n int, l []api.Edge) {
		paths, through := passed(n, l)
		for i := range n {
			if paths[i] == 0 {
				overFails(t, n, l, i, api.ErrNone)
				continue
			}
			var want []int
			for node := range n {
				if through[i][node] == paths[i] {
					want = append(want, node)
				}
			}
			checkOver(t, n, l, i, want...)
		}
	})
}

// FL1: ErrRange if there is no node i.
func TestOverNoNode(t *testing.T) {
	for n := 1; n <= 12; n++ {
		for _, i := range []int{math.MinInt, -n, -1, n, n + 1, 13, 64, math.MaxInt} {
			overFails(t, n, nil, i, api.ErrRange)
			overFails(t, n, edges(0, n-1, n-1, 0), i, api.ErrRange)
		}
	}
}

// FL1: ErrNone for all nodes that are not reachable, those with edges to
// reachable ones too.
func TestOverNotReachable(t *testing.T) {
	for n := 2; n <= 12; n++ {
		for i := 1; i < n; i++ {
			overFails(t, n, nil, i, api.ErrNone)
			overFails(t, n, edges(i, 0, i, i), i, api.ErrNone)
		}
	}
	overFails(t, 3, edges(1, 2, 2, 1), 2, api.ErrNone)
	overFails(t, 5, edges(0, 1, 0, 2, 1, 3, 2, 3, 4, 3), 4, api.ErrNone)
}

// FL2: Left returns the edges that are not used, in their order.
func TestLeft(t *testing.T) {
	diamond := edges(2, 3, 0, 1, 1, 3, 0, 2)
	checkLeft(t, 5, diamond, []int{0, 2, 3}, edges(0, 1, 1, 3))
	checkLeft(t, 5, diamond, []int{0, 1, 3}, edges(2, 3, 0, 2))
	checkLeft(t, 5, diamond, []int{0, 1}, edges(2, 3, 1, 3, 0, 2))
	checkLeft(t, 5, diamond, []int{0}, diamond)
	loop := edges(0, 1, 1, 0, 1, 1, 4, 4)
	checkLeft(t, 5, loop, []int{0, 1, 1, 1, 0, 1, 0}, edges(4, 4))
	checkLeft(t, 5, loop, []int{0, 1, 0, 1}, edges(1, 1, 4, 4))
	checkLeft(t, 2, edges(0, 1, 1, 0), []int{0, 1, 0}, nil)
	checkLeft(t, 2, edges(1, 0, 0, 0), []int{0, 0}, edges(1, 0))
	checkLeft(t, 1, nil, []int{0}, nil)
	checkLeft(t, 12, []api.Edge{}, []int{0}, nil)
}

// FL2: equal edges are all returned, or all used, however often the path uses
// them.
func TestLeftDuplicates(t *testing.T) {
	l := edges(1, 2, 0, 1, 1, 2, 0, 1, 0, 0, 1, 2, 0, 0)
	checkLeft(t, 3, l, []int{0}, l)
	checkLeft(t, 3, l, []int{0, 1}, edges(1, 2, 1, 2, 0, 0, 1, 2, 0, 0))
	checkLeft(t, 3, l, []int{0, 0, 0, 0, 0}, edges(1, 2, 0, 1, 1, 2, 0, 1, 1, 2))
	checkLeft(t, 3, l, []int{0, 1, 2}, edges(0, 0, 0, 0))
	checkLeft(t, 3, l, []int{0, 0, 1, 2}, nil)
}

// FL2: Left of many graphs and paths, and of what is no path as one of its
// nodes is another one.
func TestLeftMany(t *testing.T) {
	seed := rng.New(51)
	eachGraph(func(n int, l []api.Edge) {
		way := []int{0}
		for range below(&seed, 20) {
			step := below(&seed, n)
			if connected(l, way[len(way)-1], step) {
				way = append(way, step)
			}
		}
		checkPath(t, n, l, way)
		way[below(&seed, len(way))] = below(&seed, n+2) - 1
		checkPath(t, n, l, way)
	})
}

// checkPath checks Left for a list of nodes, whether or not it is a path.
func checkPath(t *testing.T, n int, l []api.Edge, way []int) {
	t.Helper()
	isPath := way[0] == 0
	rest := slices.Clone(l)
	for k := 1; k < len(way); k++ {
		isPath = isPath && connected(l, way[k-1], way[k])
		rest = slices.DeleteFunc(rest, func(e api.Edge) bool { return e.From == way[k-1] && e.To == way[k] })
	}
	if isPath {
		checkLeft(t, n, l, way, rest)
	} else {
		leftFails(t, n, l, way, api.ErrForm)
	}
}

// FL2: ErrForm for what is no path: one that does not start with 0, or has a
// step without an edge, whether or not its nodes exist.
func TestLeftNoPath(t *testing.T) {
	l := edges(0, 1, 1, 2, 2, 0)
	for _, way := range [][]int{
		nil, {}, {1}, {1, 2}, {1, 2, 0}, {2, 0, 1}, {-1}, {3}, {math.MinInt}, {math.MaxInt},
		{0, 0}, {0, 2}, {0, 1, 0}, {0, 1, 1}, {0, 1, 2, 1}, {0, 1, 2, 0, 2},
		{0, -1}, {0, 3}, {0, 1, math.MaxInt}, {0, math.MinInt, 1}, {0, 1, 3, 0}, {0, 2, 0, 1},
	} {
		leftFails(t, 3, l, way, api.ErrForm)
	}
	leftFails(t, 1, nil, nil, api.ErrForm)
	leftFails(t, 1, nil, []int{0, 0}, api.ErrForm)
}

// FL2: a path may be long.
func TestLeftLongPath(t *testing.T) {
	way := slices.Repeat([]int{0, 1, 2}, 100000)
	checkLeft(t, 3, edges(0, 1, 1, 2, 2, 0, 0, 0), way, edges(0, 0))
	leftFails(t, 3, edges(0, 1, 1, 2, 2, 0, 0, 0), append(way, 1), api.ErrForm)
}

// P2: arguments are left as they are, with the memory behind them, and a result
// is new memory.
func TestNothingIsShared(t *testing.T) {
	l := edges(0, 1, 0, 2, 1, 3, 2, 3, -7, 99, 5, 5)
	way := []int{0, 2, 3, 77, -5}
	l0, way0 := slices.Clone(l), slices.Clone(way)
	for range 2 {
		reach, _ := Reach(5, l[:4])
		over, _ := Over(5, l[:4], 3)
		left, _ := Left(5, l[:4], way[:3])
		all, _ := Left(5, l[:4], way[:1])
		if !slices.Equal(reach, []int{0, 1, 2, 3}) || !slices.Equal(over, []int{0, 3}) ||
			!slices.Equal(left, edges(0, 1, 1, 3)) || !slices.Equal(all, l0[:4]) {
			t.Errorf("Reach %v, Over %v, Left %v and %v", reach, over, left, all)
		}
		for _, list := range [][]int{reach[:cap(reach)], over[:cap(over)]} {
			for k := range list {
				list[k] = 11
			}
		}
		for _, list := range [][]api.Edge{left[:cap(left)], all[:cap(all)]} {
			for k := range list {
				list[k] = api.Edge{From: 11, To: 11}
			}
		}
		if !slices.Equal(l, l0) || !slices.Equal(way, way0) {
			t.Fatalf("changed: %v, %v", l, way)
		}
	}
}
