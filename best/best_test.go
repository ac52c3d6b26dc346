package best

import (
	"math"
	"slices"
	"testing"

	"hedgewright/api"
	"hedgewright/shape"
)

// node is of a tree with pointers: the model that the answers are held against.
type node struct {
	key         int
	left, right *node
}

// modelOf is the tree that l tells.
func modelOf(l []api.Spot, depth int) *node {
	for i, s := range l {
		if s.Depth == depth {
			return &node{s.Key, modelOf(l[:i], depth+1), modelOf(l[i+1:], depth+1)}
		}
	}
	return nil
}

// met tells how many nodes are met on the way to key, or, where between is
// told, to what is just below key.
func (n *node) met(key int, between bool) int {
	met := 0
	for n != nil {
		met++
		switch {
		case key == n.key && !between:
			return met
		case key <= n.key:
			n = n.left
		default:
			n = n.right
		}
	}
	return met
}

// modelCost asks for each key, and for each one between, one by one.
func modelCost(l []api.Spot, hits, gaps []int) int {
	top, cost := modelOf(l, 0), 0
	for key, times := range hits {
		cost += times * top.met(key, false)
	}
	for key, times := range gaps {
		cost += times * top.met(key, true)
	}
	return cost
}

// modelTree looks at all trees of up to seven keys.
func modelTree(t *testing.T, hits, gaps []int) ([]api.Spot, int) {
	all, err := shape.All(len(hits))
	if err != api.OK {
		t.Fatal(err)
	}
	var tree []api.Spot
	var order []int
	least := math.MaxInt
	for _, l := range all {
		cost := modelCost(l, hits, gaps)
		first, _ := shape.Order(l, 1)
		if cost < least || cost == least && slices.Compare(first, order) < 0 {
			tree, order, least = l, first, cost
		}
	}
	return tree, least
}

// modelParts has for each part the tree that is best of it alone, node first;
// parts that are shorter are known ahead, and what a tree costs is asked anew.
func modelParts(t *testing.T, hits, gaps []int) map[[2]int][]int {
	parts := map[[2]int][]int{}
	for length := 1; length <= len(hits); length++ {
		for from := 0; from+length <= len(hits); from++ {
			to := from + length
			least := math.MaxInt
			for top := from; top < to; top++ {
				first := slices.Concat([]int{top}, parts[[2]int{from, top}], parts[[2]int{top + 1, to}])
				l, err := shape.Of(first)
				if err != api.OK {
					t.Fatal(first, err)
				}
				for i := range l {
					l[i].Key -= from
				}
				if cost := modelCost(l, hits[from:to], gaps[from:to+1]); cost < least {
					least, parts[[2]int{from, to}] = cost, first
				}
			}
		}
	}
	return parts
}

type asked struct{ hits, gaps []int }

// sample has n hits and a gap more, below bound, that follow from seed.
func sample(seed uint32, n, bound int) asked {
	next := func() int {
		seed = seed*1664525 + 1013904223
		return int(seed>>8) % bound
	}
	a := asked{make([]int, n), make([]int, n+1)}
	for i := range a.hits {
		a.hits[i] = next()
	}
	for i := range a.gaps {
		a.gaps[i] = next()
	}
	return a
}

// same has n hits that are alike, and gaps that are alike.
func same(n, hit, gap int) asked {
	return asked{slices.Repeat([]int{hit}, n), slices.Repeat([]int{gap}, n+1)}
}

// samples has lists of up to n hits, with many that cost the same, and few.
func samples(n int) []asked {
	var all []asked
	for size := range n + 1 {
		for seed, bound := range []int{1, 2, 2, 2, 3, 3, 5, 10, 100, 1001, 1001} {
			all = append(all, sample(uint32(seed*1000+size), size, bound))
		}
		all = append(all, same(size, 0, 1), same(size, 1, 0), same(size, 1000, 1000))
	}
	return all
}

// straight has the keys from 0 to n - 1, each below the one ahead of it.
func straight(n int) []api.Spot {
	l := make([]api.Spot, n)
	for i := range l {
		l[i] = api.Spot{Key: i, Depth: i}
	}
	return l
}

// grown has the keys from 0 to n - 1; who stands where follows from seed.
func grown(seed uint32, n int) []api.Spot {
	l := straight(n)
	var stand func(l []api.Spot, depth int)
	stand = func(l []api.Spot, depth int) {
		if len(l) > 0 {
			seed = seed*1664525 + 1013904223
			top := int(seed>>8) % len(l)
			l[top].Depth = depth
			stand(l[:top], depth+1)
			stand(l[top+1:], depth+1)
		}
	}
	stand(l, 0)
	return l
}

// with is a copy of l that has value at place.
func with(l []int, place, value int) []int {
	l = slices.Clone(l)
	l[place] = value
	return l
}

type refusal struct {
	name       string
	hits, gaps []int
	want       api.Errno
}

// refused has hits and gaps of which all calls tell an error.
func refused() []refusal {
	twenty, more := make([]int, api.MaxBest), make([]int, api.MaxBest+1)
	return []refusal{
		{"one hit too many", more, make([]int, api.MaxBest+2), api.ErrLarge},
		{"far too many", make([]int, 100_000), make([]int, 100_001), api.ErrLarge},
		{"too many is told ahead of the form", more, nil, api.ErrLarge},
		{"too many is told ahead of what is out", with(more, 3, -1), make([]int, api.MaxBest+2), api.ErrLarge},
		{"no gaps", nil, nil, api.ErrForm},
		{"empty lists", []int{}, []int{}, api.ErrForm},
		{"two gaps of no hits", nil, []int{1, 1}, api.ErrForm},
		{"as many gaps as hits", []int{1, 2}, []int{1, 2}, api.ErrForm},
		{"two gaps more than hits", []int{1, 2}, []int{1, 2, 3, 4}, api.ErrForm},
		{"far too many gaps", twenty, make([]int, 100_000), api.ErrForm},
		{"as many gaps as hits, at the limit", twenty, make([]int, api.MaxBest), api.ErrForm},
		{"the form is told ahead of a hit that is out", []int{-1}, []int{1}, api.ErrForm},
		{"the form is told ahead of a gap that is out", []int{1}, []int{1, 2, 1001}, api.ErrForm},
		{"a hit below 0", []int{-1}, []int{0, 0}, api.ErrArg},
		{"a hit above 1000", []int{1001}, []int{0, 0}, api.ErrArg},
		{"the last hit below 0", with(twenty, api.MaxBest-1, -1), more, api.ErrArg},
		{"a hit far below 0", []int{0, math.MinInt}, []int{0, 0, 0}, api.ErrArg},
		{"a hit far above 1000", []int{0, math.MaxInt}, []int{0, 0, 0}, api.ErrArg},
		{"the only gap below 0", nil, []int{-1}, api.ErrArg},
		{"the only gap above 1000", nil, []int{1001}, api.ErrArg},
		{"the first gap below 0", []int{1}, []int{-1, 0}, api.ErrArg},
		{"the last gap above 1000", twenty, with(more, api.MaxBest, 1001), api.ErrArg},
		{"a gap far below 0", []int{0}, []int{0, math.MinInt}, api.ErrArg},
		{"a gap far above 1000", []int{0}, []int{math.MaxInt, 0}, api.ErrArg},
	}
}

// P9.1

func TestCost(t *testing.T) {
	three := []api.Spot{{Key: 0, Depth: 1}, {Key: 1}, {Key: 2, Depth: 1}}
	cases := []struct {
		name       string
		l          []api.Spot
		hits, gaps []int
		want       int
	}{
		{"no keys", nil, nil, []int{7}, 0},
		{"no keys, empty lists", []api.Spot{}, []int{}, []int{1000}, 0},
		{"one key is met once", straight(1), []int{5}, []int{0, 0}, 5},
		{"so is it on the way below it", straight(1), []int{0}, []int{3, 0}, 3},
		{"and on the way above it", straight(1), []int{0}, []int{0, 4}, 4},
		{"hits of three", three, []int{1, 5, 1}, []int{0, 0, 0, 0}, 9},
		{"below all", three, []int{0, 0, 0}, []int{1, 0, 0, 0}, 2},
		{"between a side and the top", three, []int{0, 0, 0}, []int{0, 1, 0, 0}, 2},
		{"between the top and a side", three, []int{0, 0, 0}, []int{0, 0, 1, 0}, 2},
		{"above all", three, []int{0, 0, 0}, []int{0, 0, 0, 1}, 2},
		{"gaps of a vine", straight(3), []int{0, 0, 0}, []int{1, 10, 100, 1000}, 1 + 20 + 300 + 3000},
		{"hits of a vine", straight(4), []int{1, 10, 100, 1000}, []int{0, 0, 0, 0, 0}, 1 + 20 + 300 + 4000},
		{"nothing is asked for", straight(20), make([]int, 20), make([]int, 21), 0},
		{"all as often as may be", straight(20), same(20, 1000, 1000).hits, same(20, 1000, 1000).gaps, 210_000 + 230_000},
		{"five keys, and gaps", []api.Spot{{Key: 0, Depth: 1}, {Key: 1}, {Key: 2, Depth: 3}, {Key: 3, Depth: 2}, {Key: 4, Depth: 1}},
			[]int{15, 10, 5, 10, 20}, []int{5, 10, 5, 5, 5, 10}, 235},
	}
	for _, c := range cases {
		if got, err := Cost(c.l, c.hits, c.gaps); got != c.want || err != api.OK {
			t.Errorf("%s: %v %v, want %v", c.name, got, err, c.want)
		}
	}
}

func TestCostOfAllTrees(t *testing.T) {
	for _, a := range samples(6) {
		all, _ := shape.All(len(a.hits))
		for _, l := range all {
			if got, err := Cost(l, a.hits, a.gaps); got != modelCost(l, a.hits, a.gaps) || err != api.OK {
				t.Fatal(l, a, got, err)
			}
		}
	}
}

func TestCostOfLargeTrees(t *testing.T) {
	for seed, a := range samples(api.MaxBest) {
		l := grown(uint32(seed), len(a.hits))
		if got, err := Cost(l, a.hits, a.gaps); got != modelCost(l, a.hits, a.gaps) || err != api.OK {
			t.Fatal(l, a, got, err)
		}
	}
}

func TestCostOfNoTree(t *testing.T) {
	large := straight(api.MaxKeys + 1)
	large[1].Key = 0
	cases := []struct {
		name string
		l    []api.Spot
		n    int
		want api.Errno
	}{
		{"too many spots", straight(api.MaxKeys + 1), 20, api.ErrLarge},
		{"too many spots, not rising", large, 1, api.ErrLarge},
		{"two at the top", []api.Spot{{Key: 0}, {Key: 1}}, 2, api.ErrForm},
		{"not rising", []api.Spot{{Key: 1}, {Key: 0, Depth: 1}}, 2, api.ErrForm},
		{"a key twice", []api.Spot{{Key: 0}, {Key: 0, Depth: 1}}, 2, api.ErrForm},
		{"none at the top", []api.Spot{{Key: 0, Depth: 1}}, 1, api.ErrForm},
		{"far too deep", []api.Spot{{Key: 0}, {Key: 1, Depth: math.MaxInt}}, 2, api.ErrForm},
		{"far above the top", []api.Spot{{Key: 0, Depth: math.MinInt}}, 1, api.ErrForm},
	}
	for _, c := range cases {
		a := same(c.n, 1, 1)
		if got, err := Cost(c.l, a.hits, a.gaps); got != 0 || err != c.want || err != shape.Check(c.l) {
			t.Errorf("%s: %v %v, want %v", c.name, got, err, c.want)
		}
	}
}

func TestCostOfOtherKeys(t *testing.T) {
	cases := []struct {
		name string
		l    []api.Spot
		n    int
	}{
		{"none of one", nil, 1},
		{"one of none", straight(1), 0},
		{"one less", straight(4), 5},
		{"one more", straight(6), 5},
		{"one more than may be", straight(21), 20},
		{"as many as a tree may have", straight(api.MaxKeys), 20},
		{"the first one left out", []api.Spot{{Key: 1}}, 1},
		{"one left out", []api.Spot{{Key: 0}, {Key: 2, Depth: 1}}, 2},
		{"from 1 on", []api.Spot{{Key: 1, Depth: 1}, {Key: 2}, {Key: 3, Depth: 1}}, 3},
		{"from -1 on", []api.Spot{{Key: -1}, {Key: 0, Depth: 1}}, 2},
		{"far below", []api.Spot{{Key: math.MinInt}, {Key: 1, Depth: 1}}, 2},
		{"far above", []api.Spot{{Key: 0}, {Key: math.MaxInt, Depth: 1}}, 2},
	}
	for _, c := range cases {
		a := same(c.n, 1, 1)
		if shape.Check(c.l) != api.OK {
			t.Fatalf("%s: no tree", c.name)
		}
		if got, err := Cost(c.l, a.hits, a.gaps); got != 0 || err != api.ErrForm {
			t.Errorf("%s: %v %v", c.name, got, err)
		}
	}
}

// What is wrong with hits and gaps is told ahead of what is wrong with the tree.
func TestAllTellErrors(t *testing.T) {
	for _, c := range refused() {
		lists := [][]api.Spot{nil, straight(1), straight(2), straight(min(len(c.hits), api.MaxKeys)),
			straight(api.MaxKeys + 1), {{Key: 0, Depth: 1}}}
		for _, l := range lists {
			if got, err := Cost(l, c.hits, c.gaps); got != 0 || err != c.want {
				t.Errorf("Cost, %s: %v %v, want %v", c.name, got, err, c.want)
			}
		}
		if l, cost, err := Tree(c.hits, c.gaps); l != nil || cost != 0 || err != c.want {
			t.Errorf("Tree, %s: %v %v %v, want %v", c.name, l, cost, err, c.want)
		}
		if roots, err := Roots(c.hits, c.gaps); roots != nil || err != c.want {
			t.Errorf("Roots, %s: %v %v, want %v", c.name, roots, err, c.want)
		}
	}
}

// P9.2

func TestTree(t *testing.T) {
	three := []api.Spot{{Key: 0, Depth: 1}, {Key: 1}, {Key: 2, Depth: 1}}
	cases := []struct {
		name       string
		hits, gaps []int
		want       []api.Spot
		cost       int
	}{
		{"no keys", nil, []int{7}, nil, 0},
		{"no keys, empty list", []int{}, []int{1000}, nil, 0},
		{"one", []int{4}, []int{1, 2}, straight(1), 7},
		{"asked for 1, 5 and 1 times", []int{1, 5, 1}, []int{0, 0, 0, 0}, three, 9},
		{"of two that cost the same the least is the top", []int{3, 3}, []int{0, 0, 0}, straight(2), 9},
		{"the greater one more often", []int{3, 4}, []int{0, 0, 0}, []api.Spot{{Key: 0, Depth: 1}, {Key: 1}}, 10},
		{"gaps alone", []int{0, 0}, []int{0, 0, 9}, []api.Spot{{Key: 0, Depth: 1}, {Key: 1}}, 9},
		{"the first gap alone", []int{0, 0}, []int{9, 0, 0}, straight(2), 9},
		{"a gap between", []int{0, 0, 0}, []int{0, 9, 9, 0}, []api.Spot{{Key: 0, Depth: 1}, {Key: 1}, {Key: 2, Depth: 1}}, 36},
		{"nothing is asked for", make([]int, 20), make([]int, 21), straight(20), 0},
		{"one alone is asked for", []int{0, 0, 0, 0, 1}, make([]int, 6),
			[]api.Spot{{Key: 0, Depth: 1}, {Key: 1, Depth: 2}, {Key: 2, Depth: 3}, {Key: 3, Depth: 4}, {Key: 4}}, 1},
		{"four alike", []int{1, 1, 1, 1}, make([]int, 5),
			[]api.Spot{{Key: 0, Depth: 1}, {Key: 1}, {Key: 2, Depth: 1}, {Key: 3, Depth: 2}}, 8},
		{"five keys, and gaps", []int{15, 10, 5, 10, 20}, []int{5, 10, 5, 5, 5, 10},
			[]api.Spot{{Key: 0, Depth: 1}, {Key: 1}, {Key: 2, Depth: 3}, {Key: 3, Depth: 2}, {Key: 4, Depth: 1}}, 235},
	}
	for _, c := range cases {
		if l, cost, err := Tree(c.hits, c.gaps); !slices.Equal(l, c.want) || cost != c.cost || err != api.OK {
			t.Errorf("%s: %v %v %v, want %v %v", c.name, l, cost, err, c.want, c.cost)
		}
	}
}

// Twenty that are asked for alike fill five rows, the lowest one with five;
// the left side has the fewest that fill their rows above it.
func TestTreeOfAsManyAsMayBe(t *testing.T) {
	a := same(api.MaxBest, 1000, 0)
	l, cost, err := Tree(a.hits, a.gaps)
	if len(l) != api.MaxBest || cost != 1000*(1+2*2+4*3+8*4+5*5) || err != api.OK {
		t.Fatal(l, cost, err)
	}
	if l[7].Depth != 0 || l[3].Depth != 1 {
		t.Error(l)
	}
	a = same(api.MaxBest, 1000, 1000)
	if l, cost, err := Tree(a.hits, a.gaps); l[7].Depth != 0 || cost != 74_000+1000*(11*4+10*5) || err != api.OK {
		t.Error(l, cost, err)
	}
}

func TestTreeAmongAllTrees(t *testing.T) {
	for _, a := range samples(7) {
		want, wantCost := modelTree(t, a.hits, a.gaps)
		if l, cost, err := Tree(a.hits, a.gaps); !slices.Equal(l, want) || cost != wantCost || err != api.OK {
			t.Fatal(a, l, cost, err, want, wantCost)
		}
	}
}

// Of four keys all hits and gaps that are 0 or 1: many trees cost the same.
func TestTreeOfAllSmallNumbers(t *testing.T) {
	for bits := range 1 << 9 {
		numbers := make([]int, 9)
		for i := range numbers {
			numbers[i] = bits >> i & 1
		}
		hits, gaps := numbers[:4], numbers[4:]
		want, wantCost := modelTree(t, hits, gaps)
		if l, cost, err := Tree(hits, gaps); !slices.Equal(l, want) || cost != wantCost || err != api.OK {
			t.Fatal(hits, gaps, l, cost, err, want, wantCost)
		}
	}
}

func TestLargeTrees(t *testing.T) {
	for _, a := range samples(api.MaxBest) {
		n := len(a.hits)
		l, cost, err := Tree(a.hits, a.gaps)
		first, _ := shape.Order(l, 1)
		if !slices.Equal(first, modelParts(t, a.hits, a.gaps)[[2]int{0, n}]) || err != api.OK {
			t.Fatal(a, l, err)
		}
		if told, err := Cost(l, a.hits, a.gaps); told != cost || cost != modelCost(l, a.hits, a.gaps) || err != api.OK {
			t.Fatal(a, l, cost, told, err)
		}
	}
}

// No tree asks less than the best.
func TestNoTreeAsksLess(t *testing.T) {
	for seed, a := range samples(api.MaxBest) {
		_, least, _ := Tree(a.hits, a.gaps)
		for more := range 20 {
			l := grown(uint32(seed*20+more), len(a.hits))
			if cost, err := Cost(l, a.hits, a.gaps); cost < least || err != api.OK {
				t.Fatal(a, l, cost, least, err)
			}
		}
	}
}

func TestRoots(t *testing.T) {
	cases := []struct {
		name       string
		hits, gaps []int
		want       [][]int
	}{
		{"no keys", nil, []int{7}, nil},
		{"one", []int{4}, []int{1, 2}, [][]int{{0}}},
		{"two alike", []int{3, 3}, []int{0, 0, 0}, [][]int{{0, 0}, {1}}},
		{"1, 5 and 1", []int{1, 5, 1}, []int{0, 0, 0, 0}, [][]int{{0, 1, 1}, {1, 1}, {2}}},
		{"nothing is asked for", []int{0, 0, 0}, []int{0, 0, 0, 0}, [][]int{{0, 0, 0}, {1, 1}, {2}}},
		// The gap between two belongs to parts of both sides of it.
		{"a gap behind the part", []int{1, 1, 1}, []int{0, 0, 9, 0}, [][]int{{0, 1, 1}, {1, 1}, {2}}},
		{"five keys, and gaps", []int{15, 10, 5, 10, 20}, []int{5, 10, 5, 5, 5, 10},
			[][]int{{0, 0, 1, 1, 1}, {1, 1, 1, 3}, {2, 3, 4}, {3, 4}, {4}}},
	}
	for _, c := range cases {
		if got, err := Roots(c.hits, c.gaps); !slices.EqualFunc(got, c.want, slices.Equal) || err != api.OK {
			t.Errorf("%s: %v %v, want %v", c.name, got, err, c.want)
		}
	}
}

// The top of each part is that of the tree of this part alone.
func TestRootsAreTopsOfParts(t *testing.T) {
	for _, a := range samples(api.MaxBest) {
		n := len(a.hits)
		roots, err := Roots(a.hits, a.gaps)
		if len(roots) != n || err != api.OK {
			t.Fatal(a, roots, err)
		}
		parts := modelParts(t, a.hits, a.gaps)
		for from, tops := range roots {
			if len(tops) != n-from {
				t.Fatal(a, roots)
			}
			for i, top := range tops {
				to := from + i + 1
				l, _, _ := Tree(a.hits[from:to], a.gaps[from:to+1])
				if top != parts[[2]int{from, to}][0] || l[top-from].Depth != 0 {
					t.Fatal(a, from, to, top)
				}
			}
		}
	}
}

func TestRootsAmongAllTrees(t *testing.T) {
	for _, a := range samples(5) {
		roots, _ := Roots(a.hits, a.gaps)
		for from, tops := range roots {
			for i, top := range tops {
				to := from + i + 1
				if l, _ := modelTree(t, a.hits[from:to], a.gaps[from:to+1]); l[top-from].Depth != 0 {
					t.Fatal(a, from, to, top, l)
				}
			}
		}
	}
}

// P1

func TestNothingPanics(t *testing.T) {
	numbers := []int{math.MinInt, math.MinInt + 1, -1, 0, 1, 2, 1000, 1001, math.MaxInt - 1, math.MaxInt}
	for _, a := range numbers {
		for _, b := range numbers {
			for _, c := range numbers {
				l := []api.Spot{{Key: a, Depth: b}, {Key: b, Depth: c}, {Key: 2, Depth: a}}
				list := []int{a, b, c, a, b}
				for hits := range 4 {
					for gaps := range 5 {
						for spots := range 4 {
							Cost(l[:spots], list[:hits], list[:gaps])
							Cost(l[:spots], make([]int, hits), make([]int, gaps))
						}
						Tree(list[:hits], list[:gaps])
						Roots(list[:hits], list[:gaps])
					}
				}
			}
		}
	}
	for hits := range 50 {
		for gaps := range 50 {
			Cost(straight(hits), make([]int, hits), make([]int, gaps))
			Tree(make([]int, hits), make([]int, gaps))
			Roots(make([]int, hits), make([]int, gaps))
		}
	}
}

// P2

// withRoom has what l has, and room behind it that is filled.
func withRoom[T any](l []T, junk T) []T {
	wide := slices.Clone(l)
	for range 25 {
		wide = append(wide, junk)
	}
	return wide[:len(l)]
}

// spoil writes over all of l, spare room included.
func spoil[T any](l []T, junk T) {
	l = l[:cap(l)]
	for i := range l {
		l[i] = junk
	}
}

func TestMemory(t *testing.T) {
	all := samples(api.MaxBest)
	for _, c := range refused() {
		all = append(all, asked{c.hits, c.gaps})
	}
	for _, a := range all {
		hits, gaps := withRoom(a.hits, 3), withRoom(a.gaps, 5)
		spots := withRoom(straight(len(a.hits)), api.Spot{Key: 9, Depth: 1})
		wholeHits, wholeGaps, wholeSpots := hits[:cap(hits)], gaps[:cap(gaps)], spots[:cap(spots)]
		aheadHits, aheadGaps, aheadSpots := slices.Clone(wholeHits), slices.Clone(wholeGaps), slices.Clone(wholeSpots)

		cost, _ := Cost(spots, hits, gaps)
		tree, least, _ := Tree(hits, gaps)
		roots, _ := Roots(hits, gaps)
		wantTree, wantRoots := slices.Clone(tree), make([][]int, len(roots))
		for i, tops := range roots {
			wantRoots[i] = slices.Clone(tops)
		}
		spoil(tree, api.Spot{Key: -7, Depth: -7})
		for i, tops := range roots {
			if !slices.Equal(tops, wantRoots[i]) {
				t.Fatal("two lists share memory", a)
			}
			spoil(tops, -7)
		}
		spoil(roots, []int{-7})
		if !slices.Equal(wholeHits, aheadHits) || !slices.Equal(wholeGaps, aheadGaps) || !slices.Equal(wholeSpots, aheadSpots) {
			t.Fatal("changed what was handed in", a)
		}

		costAgain, _ := Cost(spots, hits, gaps)
		treeAgain, leastAgain, _ := Tree(hits, gaps)
		rootsAgain, _ := Roots(hits, gaps)
		if costAgain != cost || leastAgain != least || !slices.Equal(treeAgain, wantTree) ||
			!slices.EqualFunc(rootsAgain, wantRoots, slices.Equal) {
			t.Fatal("kept something", a)
		}
	}
}
