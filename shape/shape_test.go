package shape

import (
	"math"
	"slices"
	"testing"

	"hedgewright/api"
)

// node is a tree with pointers: the model that the answers are held against.
type node struct {
	key         int
	left, right *node
}

func (n *node) insert(key int) *node {
	switch {
	case n == nil:
		return &node{key: key}
	case key < n.key:
		n.left = n.left.insert(key)
	default:
		n.right = n.right.insert(key)
	}
	return n
}

func (n *node) spots(depth int) []api.Spot {
	if n == nil {
		return nil
	}
	l := append(n.left.spots(depth+1), api.Spot{Key: n.key, Depth: depth})
	return append(l, n.right.spots(depth+1)...)
}

func (n *node) nodeFirst() []int {
	if n == nil {
		return nil
	}
	return slices.Concat([]int{n.key}, n.left.nodeFirst(), n.right.nodeFirst())
}

func (n *node) nodeLast() []int {
	if n == nil {
		return nil
	}
	return slices.Concat(n.left.nodeLast(), n.right.nodeLast(), []int{n.key})
}

func (n *node) byDepth() []int {
	var keys []int
	for row := []*node{n}; len(row) > 0; {
		var below []*node
		for _, n := range row {
			if n != nil {
				keys = append(keys, n.key)
				below = append(below, n.left, n.right)
			}
		}
		row = below
	}
	return keys
}

// parents tells the key of the one next above each key; -1 of the top.
func (n *node) parents(above int, into map[int]int) {
	if n != nil {
		into[n.key] = above
		n.left.parents(n.key, into)
		n.right.parents(n.key, into)
	}
}

// turn answers the tree in which key came up, if it is below n.
func (n *node) turn(key int) *node {
	switch {
	case n == nil:
		return nil
	case n.left != nil && n.left.key == key:
		up := n.left
		n.left, up.right = up.right, n
		return up
	case n.right != nil && n.right.key == key:
		up := n.right
		n.right, up.left = up.left, n
		return up
	}
	n.left, n.right = n.left.turn(key), n.right.turn(key)
	return n
}

func treeOf(keys []int) *node {
	var top *node
	for _, key := range keys {
		top = top.insert(key)
	}
	return top
}

// permuted tells all orders of the keys 0, 3, 6 and so on.
func permuted(n int) [][]int {
	if n == 0 {
		return [][]int{nil}
	}
	var all [][]int
	for _, shorter := range permuted(n - 1) {
		for place := range n {
			all = append(all, slices.Insert(slices.Clone(shorter), place, (n-1)*3))
		}
	}
	return all
}

// mixed tells n keys in an order that is the same each time.
func mixed(seed uint32, n int) []int {
	keys := make([]int, n)
	for i := range keys {
		seed = seed*1664525 + 1013904223
		other := int(seed>>8) % (i + 1)
		keys[i], keys[other] = keys[other], i*7+int(seed>>28)%7
	}
	return keys
}

// sampleOrders tells in which orders keys come into the trees of the tests.
func sampleOrders() [][]int {
	var orders [][]int
	for n := range 7 {
		orders = append(orders, permuted(n)...)
	}
	for seed := range uint32(20) {
		orders = append(orders, mixed(seed, int(seed)*10+10))
	}
	return orders
}

// vine is a tree with n keys, each below the one ahead of it.
func vine(n int) []api.Spot {
	l := make([]api.Spot, n)
	for i := range l {
		l[i] = api.Spot{Key: i * 5, Depth: i}
	}
	return l
}

// leftVine is a tree with n keys, each below the one behind it.
func leftVine(n int) []api.Spot {
	l := vine(n)
	for i := range l {
		l[i].Depth = n - 1 - i
	}
	return l
}

// notTrees are lists with the errors that Check tells of them.
func notTrees() map[api.Errno][][]api.Spot {
	falling := vine(api.MaxKeys + 1)
	falling[1].Key = -1
	return map[api.Errno][][]api.Spot{
		api.ErrLarge: {vine(api.MaxKeys + 1), falling, make([]api.Spot, 5000)},
		api.ErrForm: {
			{{Key: 1, Depth: 1}},
			{{Key: 1, Depth: -1}},
			{{Key: 1, Depth: math.MinInt}},
			{{Key: 1, Depth: math.MaxInt}},
			{{Key: 1}, {Key: 2}},
			{{Key: 2}, {Key: 1, Depth: 1}},
			{{Key: 2}, {Key: 2, Depth: 1}},
			{{Key: math.MaxInt}, {Key: math.MinInt, Depth: 1}},
			{{Key: 1, Depth: 1}, {Key: 2}, {Key: 2, Depth: 1}},
			{{Key: 1, Depth: 2}, {Key: 2}},
			{{Key: 1}, {Key: 2, Depth: 2}},
			{{Key: 1}, {Key: 2, Depth: -1}},
			{{Key: 1}, {Key: 2, Depth: 1}, {Key: 3, Depth: 1}},
			{{Key: 1, Depth: 1}, {Key: 2, Depth: 1}, {Key: 3}},
			{{Key: 1, Depth: 1}, {Key: 2, Depth: 2}, {Key: 3, Depth: 1}},
			{{Key: 1}, {Key: 2, Depth: math.MaxInt}, {Key: 3, Depth: math.MinInt}},
			make([]api.Spot, api.MaxKeys),
		},
	}
}

// P2.1

func TestCheckOfTrees(t *testing.T) {
	for _, l := range [][]api.Spot{
		nil, {}, {{Key: 7}}, vine(api.MaxKeys), leftVine(api.MaxKeys),
		{{Key: 1, Depth: 1}, {Key: 2}, {Key: 3, Depth: 1}},
		{{Key: 0, Depth: 1}, {Key: 1, Depth: 2}, {Key: 2}},
		// No chapter bounds the keys of spots.
		{{Key: math.MinInt}, {Key: -1, Depth: 2}, {Key: api.MaxKey + 1, Depth: 1}, {Key: math.MaxInt, Depth: 2}},
	} {
		if err := Check(l); err != api.OK {
			t.Error(l, err)
		}
	}
	for _, keys := range sampleOrders() {
		if l := treeOf(keys).spots(0); Check(l) != api.OK {
			t.Error(l)
		}
	}
}

func TestCheckOfOthers(t *testing.T) {
	for want, lists := range notTrees() {
		for _, l := range lists {
			if err := Check(l); err != want {
				t.Error(l, err, want)
			}
		}
	}
}

// TestCheckOfAllDepths asks of each list of Depths whether some tree has it.
func TestCheckOfAllDepths(t *testing.T) {
	for n := range 6 {
		var trees [][]api.Spot
		for _, keys := range permuted(n) {
			trees = append(trees, treeOf(keys).spots(0))
		}
		l := make([]api.Spot, n)
		var ask func(place int)
		ask = func(place int) {
			if place < n {
				for depth := -1; depth <= n; depth++ {
					l[place] = api.Spot{Key: place * 3, Depth: depth}
					ask(place + 1)
				}
				return
			}
			is := slices.ContainsFunc(trees, func(tree []api.Spot) bool { return slices.Equal(tree, l) })
			if err := Check(l); is != (err == api.OK) || !is && err != api.ErrForm {
				t.Fatal(l, err)
			}
		}
		ask(0)
	}
}

func TestParents(t *testing.T) {
	for _, keys := range sampleOrders() {
		top := treeOf(keys)
		want := map[int]int{}
		top.parents(-1, want)
		l := top.spots(0)
		got, err := Parents(l)
		if err != api.OK || len(got) != len(l) {
			t.Fatal(l, got, err)
		}
		for i, place := range got {
			key := -1
			if place >= 0 {
				key = l[place].Key
			}
			if key != want[l[i].Key] {
				t.Fatal(l, got, want)
			}
		}
	}
}

func TestOthersTellErrorOfCheck(t *testing.T) {
	for want, lists := range notTrees() {
		for _, l := range lists {
			if p, err := Parents(l); len(p) != 0 || err != want {
				t.Error("Parents", l, p, err)
			}
			for way := range 5 {
				if o, err := Order(l, way); len(o) != 0 || err != want {
					t.Error("Order", l, way, o, err)
				}
			}
			for _, key := range []int{-1, 0, 1, 2, 3, 5} {
				if s, err := Turn(l, key); len(s) != 0 || err != want {
					t.Error("Turn", l, key, s, err)
				}
			}
			if most, all, err := Sum(l); most != 0 || all != 0 || err != want {
				t.Error("Sum", l, most, all, err)
			}
		}
	}
}

// P2.2

func TestOrder(t *testing.T) {
	for _, keys := range sampleOrders() {
		top := treeOf(keys)
		l := top.spots(0)
		for i, want := range [][]int{top.nodeFirst(), top.nodeLast(), top.byDepth()} {
			if got, err := Order(l, i+1); !slices.Equal(got, want) || err != api.OK {
				t.Fatal(l, i+1, got, want, err)
			}
		}
	}
}

func TestOrderOfNoWay(t *testing.T) {
	for _, way := range []int{math.MinInt, -1, 0, 4, math.MaxInt} {
		for _, l := range [][]api.Spot{nil, vine(1), vine(api.MaxKeys)} {
			if got, err := Order(l, way); len(got) != 0 || err != api.ErrArg {
				t.Error(l, way, got, err)
			}
		}
	}
}

func TestOfIsOrderTurnedBack(t *testing.T) {
	for _, keys := range sampleOrders() {
		top := treeOf(keys)
		if got, err := Of(top.nodeFirst()); !slices.Equal(got, top.spots(0)) || err != api.OK {
			t.Fatal(top.nodeFirst(), got, err)
		}
	}
}

// TestOfAllOrders asks of each order of keys whether it tells a tree first.
func TestOfAllOrders(t *testing.T) {
	for n := range 7 {
		for _, keys := range permuted(n) {
			top := treeOf(keys)
			is := slices.Equal(top.nodeFirst(), keys)
			got, err := Of(keys)
			if is && (err != api.OK || !slices.Equal(got, top.spots(0))) {
				t.Fatal(keys, got, err)
			}
			if !is && (err != api.ErrForm || len(got) != 0) {
				t.Fatal(keys, got, err)
			}
		}
	}
}

func TestOfAtItsLimits(t *testing.T) {
	rising := func(n int) []int {
		keys := make([]int, n)
		for i := range keys {
			keys[i] = i * 5
		}
		return keys
	}
	falling := rising(api.MaxKeys)
	slices.Reverse(falling)
	large := rising(api.MaxKeys + 1)
	large[0] = -1
	cases := []struct {
		name  string
		first []int
		want  []api.Spot
		err   api.Errno
	}{
		{"nil", nil, nil, api.OK},
		{"empty", []int{}, nil, api.OK},
		{"least and greatest key", []int{api.MaxKey, 0}, []api.Spot{{Key: 0, Depth: 1}, {Key: api.MaxKey}}, api.OK},
		{"as many as may be, rising", rising(api.MaxKeys), vine(api.MaxKeys), api.OK},
		{"as many as may be, falling", falling, leftVine(api.MaxKeys), api.OK},
		{"one too many", rising(api.MaxKeys + 1), nil, api.ErrLarge},
		{"large is told ahead of form", large, nil, api.ErrLarge},
		{"below 0", []int{-1}, nil, api.ErrForm},
		{"below 0 at the end", []int{5, 3, -1}, nil, api.ErrForm},
		{"above MaxKey", []int{5, api.MaxKey + 1}, nil, api.ErrForm},
		{"far off", []int{math.MaxInt, math.MinInt}, nil, api.ErrForm},
		{"less behind more", []int{3, 5, 2}, nil, api.ErrForm},
		{"less behind more, below", []int{9, 3, 5, 2}, nil, api.ErrForm},
		{"the top twice", []int{3, 3}, nil, api.ErrForm},
		{"the top twice, behind more", []int{3, 5, 3}, nil, api.ErrForm},
		{"another one twice", []int{9, 3, 1, 3}, nil, api.ErrForm},
	}
	for _, c := range cases {
		if got, err := Of(c.first); !slices.Equal(got, c.want) || err != c.err {
			t.Errorf("%s: %v %v, want %v %v", c.name, got, err, c.want, c.err)
		}
	}
}

// P2.3

func TestTurn(t *testing.T) {
	for _, keys := range sampleOrders() {
		l := treeOf(keys).spots(0)
		for _, s := range l {
			if s.Depth == 0 {
				continue
			}
			want := treeOf(keys).turn(s.Key).spots(0)
			if got, err := Turn(l, s.Key); !slices.Equal(got, want) || err != api.OK {
				t.Fatal(l, s.Key, got, want, err)
			}
		}
	}
}

func TestTurnBack(t *testing.T) {
	for _, keys := range sampleOrders() {
		l := treeOf(keys).spots(0)
		parents, _ := Parents(l)
		for i, above := range parents {
			if above < 0 {
				continue
			}
			turned, _ := Turn(l, l[i].Key)
			if back, err := Turn(turned, l[above].Key); !slices.Equal(back, l) || err != api.OK {
				t.Fatal(l, l[i].Key, turned, back, err)
			}
		}
	}
}

func TestTurnOfNone(t *testing.T) {
	l := []api.Spot{{Key: 2, Depth: 1}, {Key: 4}, {Key: 6, Depth: 1}}
	for _, key := range []int{math.MinInt, -1, 0, 1, 3, 4, 5, 7, math.MaxInt} {
		if got, err := Turn(l, key); len(got) != 0 || err != api.ErrNone {
			t.Error(key, got, err)
		}
	}
	if got, err := Turn(nil, 0); len(got) != 0 || err != api.ErrNone {
		t.Error(got, err)
	}
}

func TestSum(t *testing.T) {
	cases := []struct {
		l         []api.Spot
		most, all int
	}{
		{nil, -1, 0},
		{[]api.Spot{}, -1, 0},
		{vine(1), 0, 0},
		{[]api.Spot{{Key: 1, Depth: 1}, {Key: 2}, {Key: 3, Depth: 1}}, 1, 2},
		{[]api.Spot{{Key: 1, Depth: 1}, {Key: 2, Depth: 2}, {Key: 3}, {Key: 4, Depth: 1}}, 2, 4},
		{vine(api.MaxKeys), 199, 19900},
		{leftVine(api.MaxKeys), 199, 19900},
	}
	for _, c := range cases {
		if most, all, err := Sum(c.l); most != c.most || all != c.all || err != api.OK {
			t.Error(c.l, most, all, err)
		}
	}
}

// depthsOf tells the Depths of the keys 0, 1, 2 and so on; nil, if they are others.
func depthsOf(l []api.Spot) []int {
	depths := make([]int, len(l))
	for i, s := range l {
		if s.Key != i {
			return nil
		}
		depths[i] = s.Depth
	}
	return depths
}

func TestAll(t *testing.T) {
	for n, want := range []int{1, 1, 2, 5, 14, 42, 132, 429} {
		trees, err := All(n)
		if len(trees) != want || err != api.OK {
			t.Fatal(n, len(trees), err)
		}
		var ahead []int
		for i, l := range trees {
			depths := depthsOf(l)
			if len(depths) != n || Check(l) != api.OK {
				t.Fatal(n, i, l)
			}
			if i > 0 && slices.Compare(ahead, depths) >= 0 {
				t.Fatal(n, i, ahead, depths)
			}
			ahead = depths
		}
	}
}

func TestAllOfThree(t *testing.T) {
	trees, err := All(3)
	var got []int
	for _, l := range trees {
		got = append(got, depthsOf(l)...)
	}
	if want := []int{0, 1, 2, 0, 2, 1, 1, 0, 1, 1, 2, 0, 2, 1, 0}; !slices.Equal(got, want) || err != api.OK {
		t.Error(got, err)
	}
}

func TestAllOutOfBounds(t *testing.T) {
	for _, n := range []int{math.MinInt, -1, 8, 200, math.MaxInt} {
		if trees, err := All(n); len(trees) != 0 || err != api.ErrArg {
			t.Error(n, len(trees), err)
		}
	}
}

// P1

func TestNothingPanics(t *testing.T) {
	numbers := []int{math.MinInt, math.MinInt + 1, -1, 0, 1, 2, 3, 4, 8,
		api.MaxKey, api.MaxKey + 1, math.MaxInt - 1, math.MaxInt}
	lists := [][]api.Spot{nil, {}, make([]api.Spot, 100_000)}
	var keys [][]int
	for _, a := range numbers {
		for _, b := range numbers {
			for _, c := range numbers {
				lists = append(lists, []api.Spot{{Key: a, Depth: b}, {Key: b, Depth: c}, {Key: c, Depth: a}},
					[]api.Spot{{Key: 1, Depth: a}, {Key: 2, Depth: b}, {Key: 3, Depth: c}})
				keys = append(keys, []int{a, b, c})
			}
		}
	}
	for _, l := range lists {
		Check(l)
		Parents(l)
		Sum(l)
		for _, number := range numbers {
			Order(l, number)
			Turn(l, number)
		}
	}
	for _, first := range append(keys, make([]int, 100_000)) {
		Of(first)
	}
	for _, number := range numbers {
		All(number)
	}
}

// P2

// withRoom has the items of l, and room behind them that is filled with spare.
func withRoom[T any](l []T, spare T) []T {
	wide := slices.Clone(l)
	for range 5 {
		wide = append(wide, spare)
	}
	return wide[:len(l)]
}

// spoil writes over all of l, spare room included.
func spoil[T any](l []T, junk T) {
	l = l[:cap(l)]
	for i := range l {
		l[i] = junk
	}
}

// testMemory asks twice, spoils the first answer, and looks for what that changed.
func testMemory[In, Out comparable](t *testing.T, start []In, spare In, junk Out, ask func([]In) ([]Out, api.Errno)) {
	t.Helper()
	l := withRoom(start, spare)
	whole := l[:cap(l)]
	ahead := slices.Clone(whole)
	got, err := ask(l)
	kept := slices.Clone(got)
	if !slices.Equal(whole, ahead) {
		t.Fatal("changed what was handed in", start)
	}
	spoil(got, junk)
	if !slices.Equal(whole, ahead) {
		t.Fatal("answered what was handed in", start)
	}
	if again, errAgain := ask(l); !slices.Equal(again, kept) || errAgain != err {
		t.Fatal("kept something", start)
	}
}

func TestMemory(t *testing.T) {
	spare, junk := api.Spot{Key: 77, Depth: 77}, api.Spot{Key: -77, Depth: -77}
	lists := [][]api.Spot{{}, vine(1), vine(3), leftVine(api.MaxKeys), vine(api.MaxKeys + 1),
		{{Key: 5}, {Key: 0}}, treeOf(mixed(3, 50)).spots(0)}
	for _, l := range lists {
		testMemory(t, l, spare, -77, Parents)
		for way := range 5 {
			testMemory(t, l, spare, -77, func(l []api.Spot) ([]int, api.Errno) { return Order(l, way) })
		}
		for key := range 30 {
			testMemory(t, l, spare, junk, func(l []api.Spot) ([]api.Spot, api.Errno) { return Turn(l, key) })
		}
		testMemory(t, l, spare, 0, func(l []api.Spot) ([]int, api.Errno) {
			most, all, err := Sum(l)
			return []int{most, all}, err
		})
		testMemory(t, l, spare, 0, func(l []api.Spot) ([]int, api.Errno) { return nil, Check(l) })
	}
	for _, first := range [][]int{{}, {4}, {4, 2, 6}, {4, 6, 2}, {-1}, mixed(5, 80), treeOf(mixed(5, 80)).nodeFirst()} {
		testMemory(t, first, 77, junk, Of)
	}
}

func TestMemoryOfAll(t *testing.T) {
	for n := range 8 {
		want, _ := All(n)
		trees, _ := All(n)
		// Each list is filled with a mark of its own, spare room included: where
		// two share memory, the later mark stands in the earlier list.
		for i, l := range trees {
			spoil(l, api.Spot{Key: -1, Depth: i})
		}
		for i, l := range trees {
			for _, s := range l[:cap(l)] {
				if s != (api.Spot{Key: -1, Depth: i}) {
					t.Fatal("two lists share memory", n, i, s.Depth)
				}
			}
		}
		again, _ := All(n)
		if !slices.EqualFunc(again, want, slices.Equal) {
			t.Fatal("kept something", n)
		}
	}
}
